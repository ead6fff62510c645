/-
  The document's own disk: what it has, and whose; ready.
-/
import Derived.Test.YtolaagbdnchhiaaRD1
set_option linter.unusedVariables false
set_option linter.unusedSimpArgs false
namespace Go.Proofs.Ytolaagbdnchhiaa
open Go.RowKit Go.Maps

/-- A file. -/
def RFl (w : World) (f : Nat) (v : Value) (sy : Nat) : Prop := w.heap[f]? = some (.cells #[v, .int .i64 (sy : Int)] 94 (0, 0))
theorem RFl.lt {w : World} {f sy : Nat} {v : Value} (h : RFl w f v sy) : f < w.heap.size := (Array.getElem?_eq_some_iff.1 h).1
theorem RFl.cells {w : World} {f sy : Nat} {v : Value} (h : RFl w f v sy) : w.cell? ⟨f, 0, none⟩ = some v ∧ w.cell? ⟨f, 1, none⟩ = some (.int .i64 (sy : Int)) := by
  unfold RFl at h
  refine ⟨?_, ?_⟩ <;> (rw [Go.Joins.cell_of_block h]; rfl)
theorem RFl.free {w : World} {f sy : Nat} {v : Value} (h : RFl w f v sy) (i : Nat) : w.frozen? ⟨f, i, none⟩ = false := Go.Joins.unfrozen_of_block h i

theorem row_any {w w' : World} {B size n : Nat} {e : TypeId} {v : Value} {xs : List Value} (h : w.ownsRow B e size v n xs) (hs : ∀ j, v.ownBlock = some j → w'.heap[j]? = w.heap[j]?) : w'.ownsRow B e size v n xs := by
  refine ⟨h.1, ?_⟩
  rcases h.2 with h0 | ⟨g, cap, cur, rfl, hb, hh, hn⟩
  · exact .inl h0
  · exact .inr ⟨g, cap, cur, rfl, hb, (hs g rfl).trans hh, hn⟩
def rpt (f : Nat) : Value := .pointer (some ⟨f, 0, none⟩)
/-- The document's disk in memory. -/
structure Wd (w : World) (r : Nat) (κ : Nat → Ro) (vF vO vL vN : Value) (φ : Nat → Nat) (β : Nat → Value) (P : PD) (cut : Int) (off : Bool) : Prop where
  rk : Rk w r vF vO vL vN P.n cut off
  kr : κ r = .dsk
  rF : w.ownsRow 0 95 1 vF P.fil.length ((List.range P.fil.length).map fun i => rpt (φ i))
  kF : ∀ g, vF.ownBlock = some g → κ g = .fs
  rO : Nr w 0 vO (nl P.old)
  kO : ∀ g, vO.ownBlock = some g → κ g = .nam
  rL : w.ownsRow 0 98 3 vL P.log.length (P.log.flatMap chC)
  kL : ∀ g, vL.ownBlock = some g → κ g = .log
  rN : Nr w 0 vN (nl P.now)
  kN : ∀ g, vN.ownBlock = some g → κ g = .nam
  fil : ∀ (i : Nat) (x : List Int × Nat), P.fil[i]? = some x → RFl w (φ i) (β i) x.2 ∧ κ (φ i) = .fl i ∧ Own w 0 (β i) x.1 ∧ ∀ g, (β i).ownBlock = some g → κ g = .byt i
  frs : ∀ g, κ g ≠ .out → g < w.heap.size
def RD (w : World) (r : Nat) (κ : Nat → Ro) (P : PD) (cut : Int) (off : Bool) : Prop := ∃ vF vO vL vN φ β, Wd w r κ vF vO vL vN φ β P cut off

/-- All is as it was but what is of these kinds. -/
def Sm (κ : Nat → Ro) (X : Ro → Prop) (w w' : World) : Prop := w.heap.size ≤ w'.heap.size ∧ ∀ j, j < w.heap.size → ¬ X (κ j) → w'.heap[j]? = w.heap[j]?
section
variable {w w' : World} {r : Nat} {κ : Nat → Ro} {vF vO vL vN : Value} {φ : Nat → Nat} {β : Nat → Value} {P : PD} {cut : Int} {off : Bool} {X : Ro → Prop}
theorem Sm.of_fr (F : Fr (fun j => X (κ j)) w w') : Sm κ X w w' := ⟨F.size, fun j hj hn => F.block j hj hn⟩
theorem Sm.of_blk (h : Wd w r κ vF vO vL vN φ β P cut off) (F : Fr (fun j => j = r) w w') : Sm κ (fun x => x = .dsk) w w' := ⟨F.size, fun j hj hn => F.block j hj fun e => hn (by rw [e]; exact h.kr)⟩
theorem Wd.oF (h : Wd w r κ vF vO vL vN φ β P cut off) (s : Sm κ X w w') (hx : ¬ X .fs) : w'.ownsRow 0 95 1 vF P.fil.length ((List.range P.fil.length).map fun i => rpt (φ i)) :=
  row_same h.rF fun j e => s.2 j (h.rF.lt j e).2 (by rw [h.kF j e]; exact hx)
theorem Wd.oO (h : Wd w r κ vF vO vL vN φ β P cut off) (s : Sm κ X w w') (hx : ¬ X .nam) : Nr w' 0 vO (nl P.old) :=
  row_any h.rO fun j e => s.2 j (World.ownsRow.lt h.rO j e).2 (by rw [h.kO j e]; exact hx)
theorem Wd.oN (h : Wd w r κ vF vO vL vN φ β P cut off) (s : Sm κ X w w') (hx : ¬ X .nam) : Nr w' 0 vN (nl P.now) :=
  row_any h.rN fun j e => s.2 j (World.ownsRow.lt h.rN j e).2 (by rw [h.kN j e]; exact hx)
theorem Wd.oL (h : Wd w r κ vF vO vL vN φ β P cut off) (s : Sm κ X w w') (hx : ¬ X .log) : w'.ownsRow 0 98 3 vL P.log.length (P.log.flatMap chC) :=
  row_any h.rL fun j e => s.2 j (h.rL.lt j e).2 (by rw [h.kL j e]; exact hx)
theorem Wd.oFil (h : Wd w r κ vF vO vL vN φ β P cut off) (s : Sm κ X w w') (i : Nat) (x : List Int × Nat) (hi : P.fil[i]? = some x) (hx : ¬ X (.fl i)) (hy : ¬ X (.byt i)) : RFl w' (φ i) (β i) x.2 ∧ κ (φ i) = .fl i ∧ Own w' 0 (β i) x.1 ∧ ∀ g, (β i).ownBlock = some g → κ g = .byt i := by
  obtain ⟨h1, h2, h3, h4⟩ := h.fil i x hi
  exact ⟨(s.2 _ h1.lt (by rw [h2]; exact hx)).trans h1, h2, row_same h3 fun j e => s.2 j (World.ownsRow.lt h3 j e).2 (by rw [h4 j e]; exact hy), h4⟩
theorem Wd.oK (h : Wd w r κ vF vO vL vN φ β P cut off) (s : Sm κ X w w') (hx : ¬ X .dsk) : Rk w' r vF vO vL vN P.n cut off := h.rk.same (s.2 r h.rk.lt (by rw [h.kr]; exact hx))
/-- The disk's own block alone is another one. -/
theorem Wd.blk (h : Wd w r κ vF vO vL vN φ β P cut off) (F : Fr (fun j => j = r) w w') {n' cut' : Int} {off' : Bool} (hk : Rk w' r vF vO vL vN n' cut' off') : Wd w' r κ vF vO vL vN φ β { P with n := n' } cut' off' := by
  have s := Sm.of_blk h F
  exact ⟨hk, h.kr, h.oF s (by simp), h.kF, h.oO s (by simp), h.kO, h.oL s (by simp), h.kL, h.oN s (by simp), h.kN, fun i x hi => h.oFil s i x hi (by simp) (by simp), fun g hg => Nat.lt_of_lt_of_le (h.frs g hg) s.1⟩
theorem Wd.keep (h : Wd w r κ vF vO vL vN φ β P cut off) (s : Sm κ (fun x => x = .out) w w') : Wd w' r κ vF vO vL vN φ β P cut off :=
  ⟨h.oK s (by simp), h.kr, h.oF s (by simp), h.kF, h.oO s (by simp), h.kO, h.oL s (by simp), h.kL, h.oN s (by simp), h.kN, fun i x hi => h.oFil s i x hi (by simp) (by simp), fun g hg => Nat.lt_of_lt_of_le (h.frs g hg) s.1⟩
theorem RD.keep (h : RD w r κ P cut off) (s : Sm κ (fun x => x = .out) w w') : RD w' r κ P cut off := by
  obtain ⟨vF, vO, vL, vN, φ, β, h⟩ := h
  exact ⟨vF, vO, vL, vN, φ, β, h.keep s⟩
end

/-- What is answered ahead of Sync, Rename, Delete. -/
def rcode (o n : Bool) (q : Option Nat) (ops : Int) : Int := if o = true then 24 else pcode n q ops
set_option maxHeartbeats 2000000 in
set_option maxRecDepth 100000 in
theorem ref_ready {w : World} {r : Nat} {vF vO vL vN : Value} {n cut : Int} {off : Bool} {D : PDir} (h : Rk w r vF vO vL vN n cut off) (hN : Nr w 0 vN (nl D)) (hne : ∀ g, vN.ownBlock = some g → g ≠ r) (hD : Txt D) (hl : D.length ≤ 100000) (s t : ByteArray) (hs : s.size ≤ maxLen) (ht : t.size ≤ maxLen) :
    Calls Try.prog 60 #[.pointer (some ⟨r, 0, none⟩), .string s, .string t] w fun e w' => e = .returned (.int .i64 (rcode (offed n cut off) (isName t && isName s) (plook (kl s) D) n)) ∧ Rk w' r vF vO vL vN n cut (offed n cut off) ∧ Fr (fun j => j = r) w w' ∧ w'.heap.size = w.heap.size := by
  have hi1 := refIsName_any s w hs
  have hi2 := refIsName_any t w ht
  have hm := ref_may h
  have HN := hide2 hN
  clear h hN
  go_enter Try.func60, Try.ntmps60
  go_wp2_with fail
  refine hi1.mono ?_
  rintro e w1 ⟨rfl, rfl⟩
  go_wp2_with fail
  refine hi2.mono ?_
  rintro e w1 ⟨rfl, rfl⟩
  go_wp2_with fail
  refine hm.mono ?_
  rintro e w1 ⟨rfl, hk, hF, hz⟩
  clear hm hi1 hi2
  cases ho : offed n cut off with
  | true =>
    rw [ho] at hk
    go_wp2
    go_ret
    rw [ho]
    exact ⟨rfl, hk, hF, hz⟩
  | false =>
    rw [ho] at hk
    cases h1 : isName s with
    | false =>
      go_wp2
      go_ret
      rw [ho, h1]
      exact ⟨by cases isName t <;> rfl, hk, hF, hz⟩
    | true =>
      cases h2 : isName t with
      | false =>
        go_wp2
        go_ret
        rw [ho, h1, h2]
        exact ⟨rfl, hk, hF, hz⟩
      | true =>
        have hN1 : Nr w1 0 vN (nl D) := row_any HN.out fun j e => hF.block j (World.ownsRow.lt HN.out j e).2 (hne j e)
        have hf := find_ref hN1 (by rw [nl_len]; exact hl) s
        rw [nl_find hD] at hf
        obtain ⟨c0, c1, c2, c3, c4, c5, c6⟩ := hk.cells
        have HK := hide2 hk
        clear hk hN1 HN
        cases e : plook (kl s) D with
        | none =>
          rw [e] at hf
          go_wp2_with fail
          refine hf.mono ?_
          rintro e' w2 ⟨rfl, rfl⟩
          go_wp2
          go_ret
          rw [ho, h1, h2, e]
          exact ⟨rfl, HK.out, hF, hz⟩
        | some i =>
          rw [e] at hf
          have hin : ¬ ((i : Int) < 0) := by omega
          have hin2 : decide ((i : Int) < 0) = false := by simp
          go_wp2_with fail
          refine hf.mono ?_
          rintro e' w2 ⟨rfl, rfl⟩
          by_cases hop : 65536 ≤ n
          · go_wp2
            go_ret
            rw [ho, h1, h2, e]
            exact ⟨by simp [rcode, pcode, hop], HK.out, hF, hz⟩
          · go_wp2
            go_ret
            rw [ho, h1, h2, e]
            exact ⟨by simp [rcode, pcode, hop], HK.out, hF, hz⟩
end Go.Proofs.Ytolaagbdnchhiaa
