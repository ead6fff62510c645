/-
  Layer 15: an operation is stepped to its end.
-/
import Derived.Test.YtfhcphgjaobnoaaDoorVs8
set_option linter.unusedVariables false
set_option linter.unusedSimpArgs false
namespace Go.Proofs.YtfhcphgjaobnoaaDoor
open Go.RowKit Go.Maps

theorem eg_next : ∀ args w, (callFunc 69 args).run Tryd.prog w = .ok (.enter 69 args) w := enters_of Tryd.func69 (by kernel_rfl) rfl
section
variable {w w' : World} {K Q : Nat → Prop} {sb d z M u B ob g : Nat} {A : Stt} {mark n : Int} {rest : List Int} {l : List Nat}
theorem swpA_la (mark : Int) (A : Stt) (n : Nat) (l : List Nat) : (swpA mark A n l).la = A.la := by
  unfold swpA
  split
  · rfl
  · split
    · rw [offs_la]; rfl
    · show (offs _ _).la = _
      rw [offs_la]; rfl
/-- What a step sets in an operation's own block. -/
theorem Opm.set {w5 : World} {po : Option Addr} {left left' : List Int} {dn' : Bool} {g' lb s3 mk : Nat} {ao : Option Addr} {cap : Nat} {v2 : Value} {dn : Bool}
    (hb : w5.heap[ob]? = some (.cells #[.pointer po, .func (.func 69) #[] #[.pointer (some ⟨lb, 0, none⟩), .pointer (some ⟨s3, 0, none⟩), .pointer (some ⟨mk, 0, none⟩)], v2, .bool dn] 82 (0, 0)))
    (h1 : w5.heap[lb]? = some (.cells #[.slice ao left'.length cap] 29 (0, 0))) (h2 : w5.heap[s3]? = some (.cells #[.pointer po] 30 (0, 0))) (h3 : w5.heap[mk]? = some (.cells #[.int .i64 mark] 2 (0, 0))) (hs : Seq 1 ih w5 ao left'.length cap left')
    (q1 : Q ob) (q2 : Q lb) (q3 : Q s3) (q4 : Q mk) (q5 : ∀ b off, ao = some ⟨b, off, none⟩ → Q b ∧ b ≠ ob ∧ b ≠ lb) (q6 : ao = none → left' = [] ∧ cap = 0) (ql : ∀ j, Q j → B ≤ j ∧ j < w5.heap.size) :
    Opm ((w5.setCell ⟨ob, 2, none⟩ (.int .i64 (g' : Int))).setCell ⟨ob, 3, none⟩ (.bool dn')) B Q ob po left' mark g' dn' ∧ Fr Q w5 ((w5.setCell ⟨ob, 2, none⟩ (.int .i64 (g' : Int))).setCell ⟨ob, 3, none⟩ (.bool dn')) := by
  have hF : Fr (fun j => j = ob) w5 ((w5.setCell ⟨ob, 2, none⟩ (.int .i64 (g' : Int))).setCell ⟨ob, 3, none⟩ (.bool dn')) := Fr.setCell (p := ⟨ob, 3, none⟩) (Fr.setCell (p := ⟨ob, 2, none⟩) (Fr.refl (fun j => j = ob) w5) (.inl rfl) _) (.inl rfl) _
  have n1 : lb ≠ ob := fun e => by rw [e, hb] at h1; simp at h1
  have n2 : s3 ≠ ob := fun e => by rw [e, hb] at h2; simp at h2
  have n3 : mk ≠ ob := fun e => by rw [e, hb] at h3; simp at h3
  have l1 := (Array.getElem?_eq_some_iff.1 h1).1
  have l2 := (Array.getElem?_eq_some_iff.1 h2).1
  have l3 := (Array.getElem?_eq_some_iff.1 h3).1
  have hsz := hF.size
  refine ⟨⟨⟨lb, s3, mk, ao, cap, ?_, (hF.block _ l1 n1).trans h1, (hF.block _ l2 n2).trans h2, (hF.block _ l3 n3).trans h3, ⟨hs.1, hs.2.1, hs.2.2.1, fun q => ?_⟩, q1, q2, q3, q4, q5, q6⟩, fun j hj => ⟨(ql j hj).1, by have := (ql j hj).2; omega⟩⟩, hF.mono (fun j _ e => by rw [e]; exact q1)⟩
  · rw [Go.Joins.block_setCell (Go.Joins.block_setCell hb _)]; rfl
  · obtain ⟨b, off, e, hbl, hc⟩ := hs.2.2.2 q
    exact ⟨b, off, e, by omega, fun i x hi j v hv => (hF.cell (p := ⟨b, off + i * 1 + j, none⟩) hbl (q5 b off e).2.1).trans (hc i x hi j v hv)⟩
set_option maxRecDepth 100000 in
set_option maxHeartbeats 2000000 in
theorem ostep_zero {p : Addr} (h : Opm w B Q ob (some p) [] mark g false) (hg : g < 1000000000) :
    Calls Tryd.prog 20 #[.pointer (some ⟨ob, 0, none⟩)] w fun e w' => e = .returned (.bool true) ∧ Opm w' B Q ob (some p) [] mark g true ∧ Fr Q w w' := by
  have eg := eg_next
  have HI := hide2 (oisNone_any h)
  obtain ⟨⟨lb, s3, mk, ao, cap, h0, h1, h2, h3, hs, q1, q2, q3, q4, q5, q6⟩, ql⟩ := h
  have HN := hide2 (next_zero (s3 := s3) (mk := mk) h1)
  have hol := (Array.getElem?_eq_some_iff.1 h0).1
  have c1 : w.cell? ⟨ob, 1, none⟩ = some (.func (.func 69) #[] #[.pointer (some ⟨lb, 0, none⟩), .pointer (some ⟨s3, 0, none⟩), .pointer (some ⟨mk, 0, none⟩)]) := by rw [Go.Joins.cell_of_block h0]; rfl
  have c2 : w.cell? ⟨ob, 2, none⟩ = some (.int .i64 (g : Int)) := by rw [Go.Joins.cell_of_block h0]; rfl
  have c3 : w.cell? ⟨ob, 3, none⟩ = some (.bool false) := by rw [Go.Joins.cell_of_block h0]; rfl
  have fz : ∀ i, w.frozen? ⟨ob, i, none⟩ = false := fun i => Go.Joins.unfrozen_of_block h0 i
  have f2 := fz 2
  have f3 := fz 3
  have HX : Hid (∀ q, Opm (((w.drewN q).setCell ⟨ob, 2, none⟩ (.int .i64 (g : Int))).setCell ⟨ob, 3, none⟩ (.bool true)) B Q ob (some p) [] mark g true ∧ Fr Q w (((w.drewN q).setCell ⟨ob, 2, none⟩ (.int .i64 (g : Int))).setCell ⟨ob, 3, none⟩ (.bool true))) := hide2 (fun q => by
    have hsd : Seq 1 ih (w.drewN q) ao 0 cap [] := hs
    obtain ⟨a, b⟩ := Opm.set (g' := g) (dn' := true) (left' := []) (w5 := w.drewN q) (B := B) (Q := Q) (left := []) h0 h1 h2 h3 hsd q1 q2 q3 q4 q5 q6 ql
    exact ⟨a, (((Fr.refl Q w).drewN q).trans b (fun j e => .inl e))⟩)
  clear h0 h1 h2 h3 hs q1 q2 q3 q4 q5 q6 ql fz
  go_enter Tryd.func20, Tryd.ntmps20
  go_wp2_with fail
  refine HI.out.mono ?_
  rintro e w1 ⟨rfl, q⟩
  subst q
  clear HI
  go_wp2_with fail
  refine HN.out.mono ?_
  rintro e w2 ⟨rfl, q, hq⟩
  subst hq
  clear HN
  go_wp2
  go_ret
  exact ⟨rfl, HX.out _⟩
set_option maxRecDepth 100000 in
set_option maxHeartbeats 2000000 in
theorem ostep_cons (h : Rp w K sb d z M A u) (hO : Opm w B Q ob (some ⟨sb, 0, none⟩) (n :: rest) mark g false) (hB : 0 < B) (hap : ∀ j, Q j → ¬ K j) (hn : i64ok n) (hc : ChN A n l) (hll : l.length < 1000000) (hM : M < 3600000000000000000) (hg : g < 1000000000) :
    Calls Tryd.prog 20 #[.pointer (some ⟨ob, 0, none⟩)] w fun e w' => e = .returned (.bool rest.isEmpty) ∧ 3 * goneN mark A l ≤ u ∧ Opm w' B Q ob (some ⟨sb, 0, none⟩) rest mark (g + goneN mark A l) rest.isEmpty ∧
      ∃ K', Rp w' K' sb d z (M + 10 + 5 * l.length) (swpA mark A n.toNat l) (u - 3 * goneN mark A l) ∧ (∀ j, j < w.heap.size → (K' j ↔ K j)) ∧ Fr (fun j => K j ∨ Q j) w w' ∧ ∀ j, Q j → ¬ K' j := by
  have eg := eg_next
  have HI := hide2 (oisNone_any hO)
  obtain ⟨⟨lb, s3, mk, ao, cap, h0, h1, h2, h3, hs, q1, q2, q3, q4, q5, q6⟩, ql⟩ := hO
  obtain ⟨b, off, rfl, hbl, hcell⟩ := hs.2.2.2 (by simp)
  have hlb : lb ≠ 0 := fun e => by have := (ql lb q2).1; omega
  have HN := hide2 (next_cons (rest := rest) h hn hc hll hM h1 h2 h3 hs (hap _ q2) (hap _ q3) (hap _ q4) (hap _ (q5 b off rfl).1) (q5 b off rfl).2.2 hlb)
  have hgl : goneN mark A l ≤ l.length := by unfold goneN; omega
  have hol := (Array.getElem?_eq_some_iff.1 h0).1
  have c1 : w.cell? ⟨ob, 1, none⟩ = some (.func (.func 69) #[] #[.pointer (some ⟨lb, 0, none⟩), .pointer (some ⟨s3, 0, none⟩), .pointer (some ⟨mk, 0, none⟩)]) := by rw [Go.Joins.cell_of_block h0]; rfl
  have c2 : w.cell? ⟨ob, 2, none⟩ = some (.int .i64 (g : Int)) := by rw [Go.Joins.cell_of_block h0]; rfl
  have c3 : w.cell? ⟨ob, 3, none⟩ = some (.bool false) := by rw [Go.Joins.cell_of_block h0]; rfl
  have n1 : ob ≠ lb := fun e => by rw [← e, h0] at h1; simp at h1
  have l2 := (Array.getElem?_eq_some_iff.1 h2).1
  have l3 := (Array.getElem?_eq_some_iff.1 h3).1
  have n2 : s3 ≠ lb := fun e => by rw [e, h1] at h2; simp at h2
  have n3 : mk ≠ lb := fun e => by rw [e, h1] at h3; simp at h3
  have FIN : Hid (∀ (w2 : World) (K' : Nat → Prop) (ao' : Option Addr) (cap' : Nat), Rp w2 K' sb d z (M + 10 + 5 * l.length) (swpA mark A n.toNat l) (u - 3 * goneN mark A l) → (∀ j, j < w.heap.size → (K' j ↔ K j)) → Fr (fun j => K j ∨ j = lb) w w2 → w2.heap[lb]? = some (.cells #[.slice ao' rest.length cap'] 29 (0, 0)) → Seq 1 ih w2 ao' rest.length cap' rest → (∃ off', ao' = some ⟨b, off', none⟩) →
      w2.heap[ob]? = some (.cells #[.pointer (some ⟨sb, 0, none⟩), .func (.func 69) #[] #[.pointer (some ⟨lb, 0, none⟩), .pointer (some ⟨s3, 0, none⟩), .pointer (some ⟨mk, 0, none⟩)], .int .i64 (g : Int), .bool false] 82 (0, 0)) ∧
      Opm ((w2.setCell ⟨ob, 2, none⟩ (.int .i64 ((g + goneN mark A l : Nat) : Int))).setCell ⟨ob, 3, none⟩ (.bool rest.isEmpty)) B Q ob (some ⟨sb, 0, none⟩) rest mark (g + goneN mark A l) rest.isEmpty ∧
      ∃ K', Rp ((w2.setCell ⟨ob, 2, none⟩ (.int .i64 ((g + goneN mark A l : Nat) : Int))).setCell ⟨ob, 3, none⟩ (.bool rest.isEmpty)) K' sb d z (M + 10 + 5 * l.length) (swpA mark A n.toNat l) (u - 3 * goneN mark A l) ∧ (∀ j, j < w.heap.size → (K' j ↔ K j)) ∧ Fr (fun j => K j ∨ Q j) w ((w2.setCell ⟨ob, 2, none⟩ (.int .i64 ((g + goneN mark A l : Nat) : Int))).setCell ⟨ob, 3, none⟩ (.bool rest.isEmpty)) ∧ ∀ j, Q j → ¬ K' j) := hide2 (fun w2 K' ao' cap' hR hk hF hlb2 hsq hoff => by
    have hs2 := hF.size
    have b0 := (hF.block ob hol (fun e => by rcases e with e | e; exact hap _ q1 e; exact n1 e)).trans h0
    have b2 := (hF.block s3 l2 (fun e => by rcases e with e | e; exact hap _ q3 e; exact n2 e)).trans h2
    have b3 := (hF.block mk l3 (fun e => by rcases e with e | e; exact hap _ q4 e; exact n3 e)).trans h3
    obtain ⟨off', eo⟩ := hoff
    obtain ⟨a, c⟩ := Opm.set (g' := g + goneN mark A l) (dn' := rest.isEmpty) (left' := rest) (w5 := w2) (B := B) (Q := Q) (left := rest) b0 hlb2 b2 b3 hsq q1 q2 q3 q4 (fun b' o' e => by
      rw [eo] at e
      injection e with e
      injection e with e1 e2 e3
      subst e1
      exact q5 b off rfl) (fun e => by rw [eo] at e; cases e) (fun j hj => ⟨(ql j hj).1, by have := (ql j hj).2; omega⟩)
    have hnk : ∀ j, Q j → ¬ K' j := fun j hj e => hap j hj ((hk j (ql j hj).2).1 e)
    refine ⟨b0, a, K', hR.keep c (fun j hj e => hnk j e hj) (fun e => by have := (ql 0 e).1; omega), hk, (hF.mono (G := fun j => K j ∨ Q j) (fun j _ e => by
      rcases e with e | e
      · exact .inl e
      · exact .inr (by rw [e]; exact q2))).trans c (fun j e => .inl (.inr e)), hnk⟩)
  clear h hc h0 h1 h2 h3 hs q1 q2 q3 q4 q5 q6 ql hap hcell
  go_enter Tryd.func20, Tryd.ntmps20
  go_wp2_with fail
  refine HI.out.mono ?_
  rintro e w1 ⟨rfl, q⟩
  subst q
  clear HI
  go_wp2_with fail
  refine HN.out.mono ?_
  rintro e w2 ⟨rfl, hu, K', ao', cap', r1, r2, r3, r4, r5, r6⟩
  obtain ⟨b0, f1⟩ := FIN.out w2 K' ao' cap' r1 r2 r3 r4 r5 r6
  have y2 : w2.cell? ⟨ob, 2, none⟩ = some (.int .i64 (g : Int)) := by rw [Go.Joins.cell_of_block b0]; rfl
  have y3 : w2.cell? ⟨ob, 3, none⟩ = some (.bool false) := by rw [Go.Joins.cell_of_block b0]; rfl
  have f2 : w2.frozen? ⟨ob, 2, none⟩ = false := Go.Joins.unfrozen_of_block b0 2
  have f3 : w2.frozen? ⟨ob, 3, none⟩ = false := Go.Joins.unfrozen_of_block b0 3
  have hol2 := (Array.getElem?_eq_some_iff.1 b0).1
  simp only [Int.natCast_add] at f1
  have F1 := hide2 f1
  have HU := hide2 hu
  obtain ⟨gl, hgl2⟩ : ∃ x, x = goneN mark A l := ⟨_, rfl⟩
  rw [← hgl2] at F1 HU hgl
  rw [← hgl2]
  have HG := hide2 hgl2
  clear HN FIN r1 r2 r3 r4 r5 r6 b0 f1 hu c1 c2 c3 hgl2
  go_wp2
  go_ret
  rw [← HG.out]
  exact ⟨rfl, HU.out, F1.out⟩
end
end Go.Proofs.YtfhcphgjaobnoaaDoor
