/-
  TbP: Both stores: makes. (Printed by gen_tbp.py.)
  TbQ: Both stores: swaps; words. (Printed by gen_tbq.py.)
  TbR: Both stores: loads, but words and chains. (Printed by gen_tbr.py.)
  TbS: Both stores: loads of words and of chains; loads of every kind. (Printed by gen_tbs.py.)
-/
import Derived.Test.YtbhpkidlhhkbmaaGreatDoorTbG
set_option linter.unusedVariables false
set_option linter.unusedSimpArgs false
namespace Go.Proofs.YtbhpkidlhhkbmaaGreatDoor

section
open Go.RowKit Go.Maps

/-- A step of the script. -/
structure Stp where
  kd : Int
  a : Int
  b : Int
  c : Int
  v : Int
  x : Int
  t : ByteArray
structure Stp.ok (s : Stp) : Prop where
  kd : i64ok s.kd
  a : i64ok s.a
  b : i64ok s.b
  c : i64ok s.c
  v : u64ok s.v
  x : u64ok s.x
  t : s.t.size ≤ 9223372036854775807
def Stp.cells (s : Stp) : Array Value := #[.int .i64 s.kd, .int .i64 s.a, .int .i64 s.b, .int .i64 s.c, .int .u64 s.v, .int .u64 s.x, .string s.t]
/-- Is a step one touch of a cell? -/
def Tch (k : Int) : Prop := k = 4 ∨ k = 5 ∨ k = 6 ∨ k = 8 ∨ k = 9 ∨ k = 10 ∨ k = 11 ∨ k = 12 ∨ k = 14 ∨ k = 15 ∨ k = 7
/-- What a step leaves. -/
def BoR (w w' : World) (K J : Nat → Prop) (sb d z rb : Nat) (m st : Int) (i : Nat) (tch : Prop) : Prop :=
  ∃ K' J' A' u' m' st', Bo w' K' J' sb d z rb A' u' m' st' i ∧ (tch → m' - m = st' - st) ∧ (∀ j, j < w.heap.size → ((K' j ∨ J' j) ↔ (K j ∨ J j))) ∧ Fr (fun j => K j ∨ J j) w w'
section
variable {w w' w1 w2 : World} {K J K1 : Nat → Prop} {sb d z rb u u' : Nat} {A A' : Stt} {m m' st st' fr' : Int} {i : Nat}
theorem Bo.below (h : Bo w K J sb d z rb A u m st i) (hb : Below w.heap.size w w') : Bo w' K J sb d z rb A u m st i :=
  ⟨h.p.below hb, h.r.keep (G := fun _ => False) (Fr.below hb) (fun _ _ e => e), h.ap, h.la, h.mi, h.si, h.ii, h.zz⟩
theorem Bo.up (h : Bo w K J sb d z rb A u m st i) (hi : i < 6000) : Bo w K J sb d z rb A u m st (i + 1) :=
  ⟨h.p, h.r, h.ap, fun c => by have := h.la c; omega, by have := h.mi; omega, by have := h.si; omega, by omega, h.zz⟩
theorem Bo.still {tch : Prop} (h : Bo w K J sb d z rb A u m st i) (hi : i < 6000) (hb : Below w.heap.size w w') : BoR w w' K J sb d z rb m st (i + 1) tch :=
  ⟨K, J, A, u, m, st, (h.below hb).up hi, fun _ => by omega, fun _ _ => Iff.rfl, Fr.below hb⟩
theorem Bo.done {tch : Prop} (h : Bo w K J sb d z rb A u m st i) (hb : Below w.heap.size w w1) (h1 : ∃ K' J', Bo w2 K' J' sb d z rb A' u' m' st' (i + 1) ∧ (∀ j, j < w1.heap.size → ((K' j ∨ J' j) ↔ (K j ∨ J j))) ∧ Fr (fun j => K j ∨ J j) w1 w2) (ht : tch → m' - m = st' - st) : BoR w w2 K J sb d z rb m st (i + 1) tch := by
  obtain ⟨K', J', hB, hk, hF⟩ := h1
  have := hb.size
  exact ⟨K', J', A', u', m', st', hB, ht, fun j hj => hk j (by omega), (Fr.below (F := fun j => K j ∨ J j) hb).trans hF (fun j e => .inl e)⟩
/-- What the law's variable has, at each place on the way. -/
theorem box_cell {L : Array Value} {T : TypeId} {j : Nat} {v : Value} (hb : w'.heap[w.heap.size]? = some (.cells L T (0, 0))) (hv : L[j]? = some v) : w'.cell? ⟨w.heap.size, j, none⟩ = some v := by
  rw [Go.Joins.cell_of_block hb]
  exact hv
set_option maxRecDepth 100000 in
set_option maxHeartbeats 8000000 in
theorem makes_any (h : Bo w K J sb d z rb A u m st i) (hi : i < 6000) {s : Stp} (hs : s.ok) :
    Calls Tryz.prog 9 #[.pointer (some ⟨sb, 0, none⟩), .pointer (some ⟨rb, 0, none⟩), .agg #[.int .i64 s.kd, .int .i64 s.a, .int .i64 s.b, .int .i64 s.c, .int .u64 s.v, .int .u64 s.x, .string s.t]] w fun e w' => e = .returned (.bool true) ∧ BoR w w' K J sb d z rb m st (i + 1) (Tch s.kd) := by
  obtain ⟨w0, hw0⟩ : ∃ q, q = w.alloc (.cells #[.int .i64 s.kd, .int .i64 s.a, .int .i64 s.b, .int .i64 s.c, .int .u64 s.v, .int .u64 s.x, .string s.t] 39) := ⟨_, rfl⟩
  have hb0 : Below w.heap.size w w0 := by rw [hw0]; exact (Below.refl _ _).alloc (Nat.le_refl _) _
  have nb : w0.heap[w.heap.size]? = some (.cells #[.int .i64 s.kd, .int .i64 s.a, .int .i64 s.b, .int .i64 s.c, .int .u64 s.v, .int .u64 s.x, .string s.t] 39 (0, 0)) := by rw [hw0]; exact heap_alloc_new w _
  have hs0 : w0.heap.size = w.heap.size + 1 := by rw [hw0]; simp
  have h0 := h.below hb0
  have b0 : (w.alloc (.cells #[.int .i64 s.kd, .int .i64 s.a, .int .i64 s.b, .int .i64 s.c, .int .u64 s.v, .int .u64 s.x, .string s.t] 39)).cell? ⟨w.heap.size, 0, none⟩ = some (.int .i64 s.kd) := by rw [← hw0]; exact box_cell nb rfl
  have b1 : (w.alloc (.cells #[.int .i64 s.kd, .int .i64 s.a, .int .i64 s.b, .int .i64 s.c, .int .u64 s.v, .int .u64 s.x, .string s.t] 39)).cell? ⟨w.heap.size, 1, none⟩ = some (.int .i64 s.a) := by rw [← hw0]; exact box_cell nb rfl
  have b2 : (w.alloc (.cells #[.int .i64 s.kd, .int .i64 s.a, .int .i64 s.b, .int .i64 s.c, .int .u64 s.v, .int .u64 s.x, .string s.t] 39)).cell? ⟨w.heap.size, 2, none⟩ = some (.int .i64 s.b) := by rw [← hw0]; exact box_cell nb rfl
  have b3 : (w.alloc (.cells #[.int .i64 s.kd, .int .i64 s.a, .int .i64 s.b, .int .i64 s.c, .int .u64 s.v, .int .u64 s.x, .string s.t] 39)).cell? ⟨w.heap.size, 3, none⟩ = some (.int .i64 s.c) := by rw [← hw0]; exact box_cell nb rfl
  have b4 : (w.alloc (.cells #[.int .i64 s.kd, .int .i64 s.a, .int .i64 s.b, .int .i64 s.c, .int .u64 s.v, .int .u64 s.x, .string s.t] 39)).cell? ⟨w.heap.size, 4, none⟩ = some (.int .u64 s.v) := by rw [← hw0]; exact box_cell nb rfl
  have b5 : (w.alloc (.cells #[.int .i64 s.kd, .int .i64 s.a, .int .i64 s.b, .int .i64 s.c, .int .u64 s.v, .int .u64 s.x, .string s.t] 39)).cell? ⟨w.heap.size, 5, none⟩ = some (.int .u64 s.x) := by rw [← hw0]; exact box_cell nb rfl
  have b6 : (w.alloc (.cells #[.int .i64 s.kd, .int .i64 s.a, .int .i64 s.b, .int .i64 s.c, .int .u64 s.v, .int .u64 s.x, .string s.t] 39)).cell? ⟨w.heap.size, 6, none⟩ = some (.string s.t) := by rw [← hw0]; exact box_cell nb rfl
  have nK : ¬ K w.heap.size := fun e => by have := h.p.kl _ e; omega
  have H := hide2 h
  have H0 := hide2 h0
  have NB := hide2 nb
  have HB := hide2 hb0
  clear h h0 nb hb0
  by_cases k1 : s.kd = 1
  · have dk1 : decide (s.kd = 1) = true := by simp [k1]
    obtain ⟨a1, e1, A', fr', st', hla, s1, s2, hp, hr⟩ := tw_Node H0.out (tch := Tch s.kd) (by unfold Tch; omega)
    have HP := hide2 hp
    have HRR := hide2 hr
    have HLA := hide2 hla
    clear hp hr hla
    go_enter Tryz.func9, Tryz.ntmps9
    go_wp2_with fail
    rw [k1] at hw0
    rw [← hw0]
    refine HP.out.mono ?_
    rintro e w1 ⟨rfl, m', u', hm', ht, hfr, ha⟩
    have hmid := HRR.out w1 (H0.out.mid ha)
    have HMID := hide2 hmid
    have nb1 : w1.heap[w.heap.size]? = some (.cells #[.int .i64 s.kd, .int .i64 s.a, .int .i64 s.b, .int .i64 s.c, .int .u64 s.v, .int .u64 s.x, .string s.t] 39 (0, 0)) := by
      obtain ⟨K1, _, _, hF⟩ := ha
      exact (hF.block _ (by omega) nK).trans NB.out
    have HA := hide2 ha
    have HT := hide2 ht
    clear HP hmid ha ht nb1 b0 b1 b2 b3 b4 b5 b6
    go_wp2_with fail
    refine HMID.out.mono ?_
    rintro e w2 ⟨rfl, hraf⟩
    have RET := hide2 (H.out.done (tch := Tch s.kd) HB.out (H0.out.fin HA.out hraf hfr HLA.out hm' ⟨s1, s2⟩ hi) HT.out)
    clear HMID hraf HA HT HLA HRR
    go_wp2
    go_ret
    exact ⟨wret_bool (by simp), RET.out⟩
  have dk1 : decide (s.kd = 1) = false := by simp [k1]
  by_cases k2 : s.kd = 2
  · have dk2 : decide (s.kd = 2) = true := by simp [k2]
    obtain ⟨a1, e1, A', fr', st', hla, s1, s2, hp, hr⟩ := tw_Version H0.out hs.t hs.v hs.a (tch := Tch s.kd) (by unfold Tch; omega)
    have HP := hide2 hp
    have HRR := hide2 hr
    have HLA := hide2 hla
    clear hp hr hla
    go_enter Tryz.func9, Tryz.ntmps9
    go_wp2_with fail
    rw [k2] at hw0
    rw [← hw0]
    refine HP.out.mono ?_
    rintro e w1 ⟨rfl, m', u', hm', ht, hfr, ha⟩
    have hmid := HRR.out w1 (H0.out.mid ha)
    have HMID := hide2 hmid
    have nb1 : w1.heap[w.heap.size]? = some (.cells #[.int .i64 s.kd, .int .i64 s.a, .int .i64 s.b, .int .i64 s.c, .int .u64 s.v, .int .u64 s.x, .string s.t] 39 (0, 0)) := by
      obtain ⟨K1, _, _, hF⟩ := ha
      exact (hF.block _ (by omega) nK).trans NB.out
    have e6 : w1.cell? ⟨w.heap.size, 6, none⟩ = some (.string s.t) := box_cell nb1 rfl
    have e4 : w1.cell? ⟨w.heap.size, 4, none⟩ = some (.int .u64 s.v) := box_cell nb1 rfl
    have e1 : w1.cell? ⟨w.heap.size, 1, none⟩ = some (.int .i64 s.a) := box_cell nb1 rfl
    have HA := hide2 ha
    have HT := hide2 ht
    clear HP hmid ha ht nb1 b0 b1 b2 b3 b4 b5 b6
    go_wp2_with fail
    refine HMID.out.mono ?_
    rintro e w2 ⟨rfl, hraf⟩
    have RET := hide2 (H.out.done (tch := Tch s.kd) HB.out (H0.out.fin HA.out hraf hfr HLA.out hm' ⟨s1, s2⟩ hi) HT.out)
    clear HMID hraf HA HT HLA HRR
    go_wp2
    go_ret
    exact ⟨wret_bool (by simp), RET.out⟩
  have dk2 : decide (s.kd = 2) = false := by simp [k2]
  by_cases k3 : s.kd = 3
  · have dk3 : decide (s.kd = 3) = true := by simp [k3]
    obtain ⟨a1, e1, A', fr', st', hla, s1, s2, hp, hr⟩ := tw_Txn H0.out (tch := Tch s.kd) (by unfold Tch; omega)
    have HP := hide2 hp
    have HRR := hide2 hr
    have HLA := hide2 hla
    clear hp hr hla
    go_enter Tryz.func9, Tryz.ntmps9
    go_wp2_with fail
    rw [k3] at hw0
    rw [← hw0]
    refine HP.out.mono ?_
    rintro e w1 ⟨rfl, m', u', hm', ht, hfr, ha⟩
    have hmid := HRR.out w1 (H0.out.mid ha)
    have HMID := hide2 hmid
    have nb1 : w1.heap[w.heap.size]? = some (.cells #[.int .i64 s.kd, .int .i64 s.a, .int .i64 s.b, .int .i64 s.c, .int .u64 s.v, .int .u64 s.x, .string s.t] 39 (0, 0)) := by
      obtain ⟨K1, _, _, hF⟩ := ha
      exact (hF.block _ (by omega) nK).trans NB.out
    have HA := hide2 ha
    have HT := hide2 ht
    clear HP hmid ha ht nb1 b0 b1 b2 b3 b4 b5 b6
    go_wp2_with fail
    refine HMID.out.mono ?_
    rintro e w2 ⟨rfl, hraf⟩
    have RET := hide2 (H.out.done (tch := Tch s.kd) HB.out (H0.out.fin HA.out hraf hfr HLA.out hm' ⟨s1, s2⟩ hi) HT.out)
    clear HMID hraf HA HT HLA HRR
    go_wp2
    go_ret
    exact ⟨wret_bool (by simp), RET.out⟩
  have dk3 : decide (s.kd = 3) = false := by simp [k3]
  by_cases k4 : s.kd = 4
  · have dk4 : decide (s.kd = 4) = true := by simp [k4]
    obtain ⟨a1, e1, A', fr', st', hla, s1, s2, hp, hr⟩ := tw_Head H0.out hs.a (Tch s.kd)
    have HP := hide2 hp
    have HRR := hide2 hr
    have HLA := hide2 hla
    clear hp hr hla
    go_enter Tryz.func9, Tryz.ntmps9
    go_wp2_with fail
    rw [k4] at hw0
    rw [← hw0]
    refine HP.out.mono ?_
    rintro e w1 ⟨rfl, m', u', hm', ht, hfr, ha⟩
    have hmid := HRR.out w1 (H0.out.mid ha)
    have HMID := hide2 hmid
    have nb1 : w1.heap[w.heap.size]? = some (.cells #[.int .i64 s.kd, .int .i64 s.a, .int .i64 s.b, .int .i64 s.c, .int .u64 s.v, .int .u64 s.x, .string s.t] 39 (0, 0)) := by
      obtain ⟨K1, _, _, hF⟩ := ha
      exact (hF.block _ (by omega) nK).trans NB.out
    have e1 : w1.cell? ⟨w.heap.size, 1, none⟩ = some (.int .i64 s.a) := box_cell nb1 rfl
    have HA := hide2 ha
    have HT := hide2 ht
    clear HP hmid ha ht nb1 b0 b1 b2 b3 b4 b5 b6
    go_wp2_with fail
    refine HMID.out.mono ?_
    rintro e w2 ⟨rfl, hraf⟩
    have RET := hide2 (H.out.done (tch := Tch s.kd) HB.out (H0.out.fin HA.out hraf hfr HLA.out hm' ⟨s1, s2⟩ hi) HT.out)
    clear HMID hraf HA HT HLA HRR
    go_wp2
    go_ret
    exact ⟨wret_bool (by simp), RET.out⟩
  have dk4 : decide (s.kd = 4) = false := by simp [k4]
  by_cases k16 : s.kd = 16
  · have dk16 : decide (s.kd = 16) = true := by simp [k16]
    obtain ⟨a1, e1, A', fr', st', hla, s1, s2, hp, hr⟩ := tw_Cut H0.out hs.a (tch := Tch s.kd) (by unfold Tch; omega)
    have HP := hide2 hp
    have HRR := hide2 hr
    have HLA := hide2 hla
    clear hp hr hla
    go_enter Tryz.func9, Tryz.ntmps9
    go_wp2_with fail
    rw [k16] at hw0
    rw [← hw0]
    refine HP.out.mono ?_
    rintro e w1 ⟨rfl, m', u', hm', ht, hfr, ha⟩
    have hmid := HRR.out w1 (H0.out.mid ha)
    have HMID := hide2 hmid
    have nb1 : w1.heap[w.heap.size]? = some (.cells #[.int .i64 s.kd, .int .i64 s.a, .int .i64 s.b, .int .i64 s.c, .int .u64 s.v, .int .u64 s.x, .string s.t] 39 (0, 0)) := by
      obtain ⟨K1, _, _, hF⟩ := ha
      exact (hF.block _ (by omega) nK).trans NB.out
    have e1 : w1.cell? ⟨w.heap.size, 1, none⟩ = some (.int .i64 s.a) := box_cell nb1 rfl
    have HA := hide2 ha
    have HT := hide2 ht
    clear HP hmid ha ht nb1 b0 b1 b2 b3 b4 b5 b6
    go_wp2_with fail
    refine HMID.out.mono ?_
    rintro e w2 ⟨rfl, hraf⟩
    have RET := hide2 (H.out.done (tch := Tch s.kd) HB.out (H0.out.fin HA.out hraf hfr HLA.out hm' ⟨s1, s2⟩ hi) HT.out)
    clear HMID hraf HA HT HLA HRR
    go_wp2
    go_ret
    exact ⟨wret_bool (by simp), RET.out⟩
  have dk16 : decide (s.kd = 16) = false := by simp [k16]
  have RET := hide2 (H.out.still (tch := Tch s.kd) hi HB.out)
  go_enter Tryz.func9, Tryz.ntmps9
  go_wp2_with fail
  try rw [← hw0]
  go_wp2
  go_ret
  exact ⟨rfl, RET.out⟩
end
end

section
open Go.RowKit Go.Maps

section
variable {w w' w1 w2 : World} {K J K1 : Nat → Prop} {sb d z rb u u' : Nat} {A A' : Stt} {m m' st st' fr' : Int} {i : Nat}
set_option maxRecDepth 100000 in
set_option maxHeartbeats 8000000 in
theorem swaps_any (h : Bo w K J sb d z rb A u m st i) (hi : i < 6000) {s : Stp} (hs : s.ok) :
    Calls Tryz.prog 10 #[.pointer (some ⟨sb, 0, none⟩), .pointer (some ⟨rb, 0, none⟩), .agg #[.int .i64 s.kd, .int .i64 s.a, .int .i64 s.b, .int .i64 s.c, .int .u64 s.v, .int .u64 s.x, .string s.t]] w fun e w' => e = .returned (.bool true) ∧ BoR w w' K J sb d z rb m st (i + 1) (Tch s.kd) := by
  obtain ⟨w0, hw0⟩ : ∃ q, q = w.alloc (.cells #[.int .i64 s.kd, .int .i64 s.a, .int .i64 s.b, .int .i64 s.c, .int .u64 s.v, .int .u64 s.x, .string s.t] 39) := ⟨_, rfl⟩
  have hb0 : Below w.heap.size w w0 := by rw [hw0]; exact (Below.refl _ _).alloc (Nat.le_refl _) _
  have nb : w0.heap[w.heap.size]? = some (.cells #[.int .i64 s.kd, .int .i64 s.a, .int .i64 s.b, .int .i64 s.c, .int .u64 s.v, .int .u64 s.x, .string s.t] 39 (0, 0)) := by rw [hw0]; exact heap_alloc_new w _
  have hs0 : w0.heap.size = w.heap.size + 1 := by rw [hw0]; simp
  have h0 := h.below hb0
  have b0 : (w.alloc (.cells #[.int .i64 s.kd, .int .i64 s.a, .int .i64 s.b, .int .i64 s.c, .int .u64 s.v, .int .u64 s.x, .string s.t] 39)).cell? ⟨w.heap.size, 0, none⟩ = some (.int .i64 s.kd) := by rw [← hw0]; exact box_cell nb rfl
  have b1 : (w.alloc (.cells #[.int .i64 s.kd, .int .i64 s.a, .int .i64 s.b, .int .i64 s.c, .int .u64 s.v, .int .u64 s.x, .string s.t] 39)).cell? ⟨w.heap.size, 1, none⟩ = some (.int .i64 s.a) := by rw [← hw0]; exact box_cell nb rfl
  have b2 : (w.alloc (.cells #[.int .i64 s.kd, .int .i64 s.a, .int .i64 s.b, .int .i64 s.c, .int .u64 s.v, .int .u64 s.x, .string s.t] 39)).cell? ⟨w.heap.size, 2, none⟩ = some (.int .i64 s.b) := by rw [← hw0]; exact box_cell nb rfl
  have b3 : (w.alloc (.cells #[.int .i64 s.kd, .int .i64 s.a, .int .i64 s.b, .int .i64 s.c, .int .u64 s.v, .int .u64 s.x, .string s.t] 39)).cell? ⟨w.heap.size, 3, none⟩ = some (.int .i64 s.c) := by rw [← hw0]; exact box_cell nb rfl
  have b4 : (w.alloc (.cells #[.int .i64 s.kd, .int .i64 s.a, .int .i64 s.b, .int .i64 s.c, .int .u64 s.v, .int .u64 s.x, .string s.t] 39)).cell? ⟨w.heap.size, 4, none⟩ = some (.int .u64 s.v) := by rw [← hw0]; exact box_cell nb rfl
  have b5 : (w.alloc (.cells #[.int .i64 s.kd, .int .i64 s.a, .int .i64 s.b, .int .i64 s.c, .int .u64 s.v, .int .u64 s.x, .string s.t] 39)).cell? ⟨w.heap.size, 5, none⟩ = some (.int .u64 s.x) := by rw [← hw0]; exact box_cell nb rfl
  have b6 : (w.alloc (.cells #[.int .i64 s.kd, .int .i64 s.a, .int .i64 s.b, .int .i64 s.c, .int .u64 s.v, .int .u64 s.x, .string s.t] 39)).cell? ⟨w.heap.size, 6, none⟩ = some (.string s.t) := by rw [← hw0]; exact box_cell nb rfl
  have nK : ¬ K w.heap.size := fun e => by have := h.p.kl _ e; omega
  have H := hide2 h
  have H0 := hide2 h0
  have NB := hide2 nb
  have HB := hide2 hb0
  clear h h0 nb hb0
  by_cases k5 : s.kd = 5
  · have dk5 : decide (s.kd = 5) = true := by simp [k5]
    obtain ⟨a1, e1, A', fr', st', hla, s1, s2, hp, hr⟩ := tw_Push H0.out hs.a hs.b hs.c (Tch s.kd)
    have HP := hide2 hp
    have HRR := hide2 hr
    have HLA := hide2 hla
    clear hp hr hla
    go_enter Tryz.func10, Tryz.ntmps10
    go_wp2_with fail
    rw [k5] at hw0
    rw [← hw0]
    refine HP.out.mono ?_
    rintro e w1 ⟨rfl, m', u', hm', ht, hfr, ha⟩
    have hmid := HRR.out w1 (H0.out.mid ha)
    have HMID := hide2 hmid
    have nb1 : w1.heap[w.heap.size]? = some (.cells #[.int .i64 s.kd, .int .i64 s.a, .int .i64 s.b, .int .i64 s.c, .int .u64 s.v, .int .u64 s.x, .string s.t] 39 (0, 0)) := by
      obtain ⟨K1, _, _, hF⟩ := ha
      exact (hF.block _ (by omega) nK).trans NB.out
    have e1 : w1.cell? ⟨w.heap.size, 1, none⟩ = some (.int .i64 s.a) := box_cell nb1 rfl
    have e2 : w1.cell? ⟨w.heap.size, 2, none⟩ = some (.int .i64 s.b) := box_cell nb1 rfl
    have e3 : w1.cell? ⟨w.heap.size, 3, none⟩ = some (.int .i64 s.c) := box_cell nb1 rfl
    have HA := hide2 ha
    have HT := hide2 ht
    clear HP hmid ha ht nb1 b0 b1 b2 b3 b4 b5 b6
    go_wp2_with fail
    refine HMID.out.mono ?_
    rintro e w2 ⟨rfl, hraf⟩
    have RET := hide2 (H.out.done (tch := Tch s.kd) HB.out (H0.out.fin HA.out hraf hfr HLA.out hm' ⟨s1, s2⟩ hi) HT.out)
    clear HMID hraf HA HT HLA HRR
    go_wp2
    go_ret
    exact ⟨wret_bool (by simp), RET.out⟩
  have dk5 : decide (s.kd = 5) = false := by simp [k5]
  by_cases k10 : s.kd = 10
  · have dk10 : decide (s.kd = 10) = true := by simp [k10]
    obtain ⟨a1, e1, A', fr', st', hla, s1, s2, hp, hr⟩ := tw_TakeEnd H0.out hs.a hs.v hs.x (Tch s.kd)
    have HP := hide2 hp
    have HRR := hide2 hr
    have HLA := hide2 hla
    clear hp hr hla
    go_enter Tryz.func10, Tryz.ntmps10
    go_wp2_with fail
    rw [k10] at hw0
    rw [← hw0]
    refine HP.out.mono ?_
    rintro e w1 ⟨rfl, m', u', hm', ht, hfr, ha⟩
    have hmid := HRR.out w1 (H0.out.mid ha)
    have HMID := hide2 hmid
    have nb1 : w1.heap[w.heap.size]? = some (.cells #[.int .i64 s.kd, .int .i64 s.a, .int .i64 s.b, .int .i64 s.c, .int .u64 s.v, .int .u64 s.x, .string s.t] 39 (0, 0)) := by
      obtain ⟨K1, _, _, hF⟩ := ha
      exact (hF.block _ (by omega) nK).trans NB.out
    have e1 : w1.cell? ⟨w.heap.size, 1, none⟩ = some (.int .i64 s.a) := box_cell nb1 rfl
    have e4 : w1.cell? ⟨w.heap.size, 4, none⟩ = some (.int .u64 s.v) := box_cell nb1 rfl
    have e5 : w1.cell? ⟨w.heap.size, 5, none⟩ = some (.int .u64 s.x) := box_cell nb1 rfl
    have HA := hide2 ha
    have HT := hide2 ht
    clear HP hmid ha ht nb1 b0 b1 b2 b3 b4 b5 b6
    go_wp2_with fail
    refine HMID.out.mono ?_
    rintro e w2 ⟨rfl, hraf⟩
    have RET := hide2 (H.out.done (tch := Tch s.kd) HB.out (H0.out.fin HA.out hraf hfr HLA.out hm' ⟨s1, s2⟩ hi) HT.out)
    clear HMID hraf HA HT HLA HRR
    go_wp2
    go_ret
    exact ⟨wret_bool (by simp), RET.out⟩
  have dk10 : decide (s.kd = 10) = false := by simp [k10]
  by_cases k15 : s.kd = 15
  · have dk15 : decide (s.kd = 15) = true := by simp [k15]
    obtain ⟨a1, e1, A', fr', st', hla, s1, s2, hp, hr⟩ := tw_TakeLock H0.out hs.a hs.v hs.x (Tch s.kd)
    have HP := hide2 hp
    have HRR := hide2 hr
    have HLA := hide2 hla
    clear hp hr hla
    go_enter Tryz.func10, Tryz.ntmps10
    go_wp2_with fail
    rw [k15] at hw0
    rw [← hw0]
    refine HP.out.mono ?_
    rintro e w1 ⟨rfl, m', u', hm', ht, hfr, ha⟩
    have hmid := HRR.out w1 (H0.out.mid ha)
    have HMID := hide2 hmid
    have nb1 : w1.heap[w.heap.size]? = some (.cells #[.int .i64 s.kd, .int .i64 s.a, .int .i64 s.b, .int .i64 s.c, .int .u64 s.v, .int .u64 s.x, .string s.t] 39 (0, 0)) := by
      obtain ⟨K1, _, _, hF⟩ := ha
      exact (hF.block _ (by omega) nK).trans NB.out
    have e1 : w1.cell? ⟨w.heap.size, 1, none⟩ = some (.int .i64 s.a) := box_cell nb1 rfl
    have e4 : w1.cell? ⟨w.heap.size, 4, none⟩ = some (.int .u64 s.v) := box_cell nb1 rfl
    have e5 : w1.cell? ⟨w.heap.size, 5, none⟩ = some (.int .u64 s.x) := box_cell nb1 rfl
    have HA := hide2 ha
    have HT := hide2 ht
    clear HP hmid ha ht nb1 b0 b1 b2 b3 b4 b5 b6
    go_wp2_with fail
    refine HMID.out.mono ?_
    rintro e w2 ⟨rfl, hraf⟩
    have RET := hide2 (H.out.done (tch := Tch s.kd) HB.out (H0.out.fin HA.out hraf hfr HLA.out hm' ⟨s1, s2⟩ hi) HT.out)
    clear HMID hraf HA HT HLA HRR
    go_wp2
    go_ret
    exact ⟨wret_bool (by simp), RET.out⟩
  have dk15 : decide (s.kd = 15) = false := by simp [k15]
  have RET := hide2 (H.out.still (tch := Tch s.kd) hi HB.out)
  go_enter Tryz.func10, Tryz.ntmps10
  go_wp2_with fail
  try rw [← hw0]
  go_wp2
  go_ret
  exact ⟨rfl, RET.out⟩
set_option maxRecDepth 100000 in
set_option maxHeartbeats 4000000 in
theorem words0_of {p : Value} {n a e0 : Int} {Q : World → Prop} (ha : u64ok a) (hc : Calls Tryz.prog 17 #[p, .int .i64 n] w fun e w' => e = .returned (.tuple #[.int .u64 a, .int .i64 e0]) ∧ Q w') :
    Calls Tryz.prog 35 #[p, .int .i64 n, .int .i64 0] w fun e w' => e = .returned (.tuple #[.int .u64 a, .int .i64 e0]) ∧ Q w' := by
  have hwr : IntKind.u64.wrap a = a := by rw [IntKind.wrap_u64]; have := ha.1; have := ha.2; omega
  have HC := hide2 hc
  clear hc
  go_enter Tryz.func35, Tryz.ntmps35
  go_wp2_with fail
  refine HC.out.mono ?_
  rintro e w1 ⟨rfl, hq⟩
  have HQ := hide2 hq
  clear HC hq
  go_wp2
  go_ret2
  exact ⟨rfl, HQ.out⟩
set_option maxRecDepth 100000 in
set_option maxHeartbeats 4000000 in
theorem words1_of {p : Value} {n a e0 : Int} {Q : World → Prop} (ha : u64ok a) (hc : Calls Tryz.prog 77 #[p, .int .i64 n] w fun e w' => e = .returned (.tuple #[.int .u64 a, .int .i64 e0]) ∧ Q w') :
    Calls Tryz.prog 35 #[p, .int .i64 n, .int .i64 1] w fun e w' => e = .returned (.tuple #[.int .u64 a, .int .i64 e0]) ∧ Q w' := by
  have hwr : IntKind.u64.wrap a = a := by rw [IntKind.wrap_u64]; have := ha.1; have := ha.2; omega
  have HC := hide2 hc
  clear hc
  go_enter Tryz.func35, Tryz.ntmps35
  go_wp2_with fail
  refine HC.out.mono ?_
  rintro e w1 ⟨rfl, hq⟩
  have HQ := hide2 hq
  clear HC hq
  go_wp2
  go_ret2
  exact ⟨rfl, HQ.out⟩
set_option maxRecDepth 100000 in
set_option maxHeartbeats 4000000 in
theorem words2_of {p : Value} {n a e0 : Int} {Q : World → Prop} (ha : u64ok a) (hc : Calls Tryz.prog 53 #[p, .int .i64 n] w fun e w' => e = .returned (.tuple #[.int .i64 a, .int .i64 e0]) ∧ Q w') :
    Calls Tryz.prog 35 #[p, .int .i64 n, .int .i64 2] w fun e w' => e = .returned (.tuple #[.int .u64 a, .int .i64 e0]) ∧ Q w' := by
  have hwr : IntKind.u64.wrap a = a := by rw [IntKind.wrap_u64]; have := ha.1; have := ha.2; omega
  have HC := hide2 hc
  clear hc
  go_enter Tryz.func35, Tryz.ntmps35
  go_wp2_with fail
  refine HC.out.mono ?_
  rintro e w1 ⟨rfl, hq⟩
  have HQ := hide2 hq
  clear HC hq
  go_wp2
  go_ret2
  exact ⟨rfl, HQ.out⟩
theorem tw_words (h : Bo w K J sb d z rb A u m st i) {n : Int} {q : Int} (hn : i64ok n) (hq : q = 0 ∨ q = 1 ∨ q = 2) (tch : Prop) : ∃ a e : Int, Twin 35 36 (fun p => #[p, .int .i64 n, .int .i64 q]) tch w K J sb d z rb A u m st (.tuple #[.int .u64 a, .int .i64 e]) := by
  have hp := h.p.rp (M := 100000000) (by have := h.mi; have := h.ii; omega)
  have hm : m < 4000000000000000000 := by have := h.mi; have := h.ii; omega
  have hs := h.si
  have hi := h.ii
  rcases lvI_cases (A := A) 1 n with ⟨k, rfl, hk⟩ | ⟨h1, h2⟩
  · have hnb := h.p.ok.n1 1 k hk
    obtain ⟨k, rfl⟩ : ∃ q, k = q + 1 := ⟨k - 1, by omega⟩
    rcases hq with rfl | rfl | rfl
    · exact ⟨A.va 2 (k + 1), 0, Twin.touch (A' := A) (fun _ => rfl) (words0_of (h.p.ok.bd 2 _ (by decide) hk) (beginE h.p hk hm)) (fun w1 hr => rWord0_in hr hk (by omega))⟩
    · exact ⟨A.va 3 (k + 1), 0, Twin.touch (A' := A) (fun _ => rfl) (words1_of (h.p.ok.bd 3 _ (by decide) hk) (endE h.p hk hm)) (fun w1 hr => rWord1_in hr hk (by omega))⟩
    · exact ⟨A.va 4 (k + 1), 0, Twin.touch (A' := A) (fun _ => rfl) (words2_of (h.p.ok.bd 4 _ (by decide) hk) (nextE h.p hk hm)) (fun w1 hr => rWord2_in hr hk (by omega))⟩
  · have hz : u64ok 0 := by unfold u64ok; omega
    rcases hq with rfl | rfl | rfl
    · exact ⟨0, 110, Twin.same h.p (words0_of hz (Begin_out hp hn.1 hn.2 h2)) (fun w1 hr => WordR_out hr h1 0)⟩
    · exact ⟨0, 110, Twin.same h.p (words1_of hz (End_out hp hn.1 hn.2 h2)) (fun w1 hr => WordR_out hr h1 1)⟩
    · exact ⟨0, 110, Twin.same h.p (words2_of hz (next_out hp hn.1 hn.2 h2)) (fun w1 hr => WordR_out hr h1 2)⟩
end
end

section
open Go.RowKit Go.Maps

section
variable {w w' w1 w2 : World} {K J K1 : Nat → Prop} {sb d z rb u u' : Nat} {A A' : Stt} {m m' st st' fr' : Int} {i : Nat}
set_option maxRecDepth 100000 in
set_option maxHeartbeats 8000000 in
theorem loads_11 (h : Bo w K J sb d z rb A u m st i) (hi : i < 6000) {s : Stp} (hs : s.ok) (k11 : s.kd = 11) :
    Calls Tryz.prog 11 #[.pointer (some ⟨sb, 0, none⟩), .pointer (some ⟨rb, 0, none⟩), .agg #[.int .i64 s.kd, .int .i64 s.a, .int .i64 s.b, .int .i64 s.c, .int .u64 s.v, .int .u64 s.x, .string s.t]] w fun e w' => e = .returned (.bool true) ∧ BoR w w' K J sb d z rb m st (i + 1) (Tch s.kd) := by
  obtain ⟨w0, hw0⟩ : ∃ q, q = w.alloc (.cells #[.int .i64 s.kd, .int .i64 s.a, .int .i64 s.b, .int .i64 s.c, .int .u64 s.v, .int .u64 s.x, .string s.t] 39) := ⟨_, rfl⟩
  have hb0 : Below w.heap.size w w0 := by rw [hw0]; exact (Below.refl _ _).alloc (Nat.le_refl _) _
  have nb : w0.heap[w.heap.size]? = some (.cells #[.int .i64 s.kd, .int .i64 s.a, .int .i64 s.b, .int .i64 s.c, .int .u64 s.v, .int .u64 s.x, .string s.t] 39 (0, 0)) := by rw [hw0]; exact heap_alloc_new w _
  have hs0 : w0.heap.size = w.heap.size + 1 := by rw [hw0]; simp
  have h0 := h.below hb0
  have b0 : (w.alloc (.cells #[.int .i64 s.kd, .int .i64 s.a, .int .i64 s.b, .int .i64 s.c, .int .u64 s.v, .int .u64 s.x, .string s.t] 39)).cell? ⟨w.heap.size, 0, none⟩ = some (.int .i64 s.kd) := by rw [← hw0]; exact box_cell nb rfl
  have b1 : (w.alloc (.cells #[.int .i64 s.kd, .int .i64 s.a, .int .i64 s.b, .int .i64 s.c, .int .u64 s.v, .int .u64 s.x, .string s.t] 39)).cell? ⟨w.heap.size, 1, none⟩ = some (.int .i64 s.a) := by rw [← hw0]; exact box_cell nb rfl
  have b2 : (w.alloc (.cells #[.int .i64 s.kd, .int .i64 s.a, .int .i64 s.b, .int .i64 s.c, .int .u64 s.v, .int .u64 s.x, .string s.t] 39)).cell? ⟨w.heap.size, 2, none⟩ = some (.int .i64 s.b) := by rw [← hw0]; exact box_cell nb rfl
  have b3 : (w.alloc (.cells #[.int .i64 s.kd, .int .i64 s.a, .int .i64 s.b, .int .i64 s.c, .int .u64 s.v, .int .u64 s.x, .string s.t] 39)).cell? ⟨w.heap.size, 3, none⟩ = some (.int .i64 s.c) := by rw [← hw0]; exact box_cell nb rfl
  have b4 : (w.alloc (.cells #[.int .i64 s.kd, .int .i64 s.a, .int .i64 s.b, .int .i64 s.c, .int .u64 s.v, .int .u64 s.x, .string s.t] 39)).cell? ⟨w.heap.size, 4, none⟩ = some (.int .u64 s.v) := by rw [← hw0]; exact box_cell nb rfl
  have b5 : (w.alloc (.cells #[.int .i64 s.kd, .int .i64 s.a, .int .i64 s.b, .int .i64 s.c, .int .u64 s.v, .int .u64 s.x, .string s.t] 39)).cell? ⟨w.heap.size, 5, none⟩ = some (.int .u64 s.x) := by rw [← hw0]; exact box_cell nb rfl
  have b6 : (w.alloc (.cells #[.int .i64 s.kd, .int .i64 s.a, .int .i64 s.b, .int .i64 s.c, .int .u64 s.v, .int .u64 s.x, .string s.t] 39)).cell? ⟨w.heap.size, 6, none⟩ = some (.string s.t) := by rw [← hw0]; exact box_cell nb rfl
  have nK : ¬ K w.heap.size := fun e => by have := h.p.kl _ e; omega
  have H := hide2 h
  have H0 := hide2 h0
  have NB := hide2 nb
  have HB := hide2 hb0
  clear h h0 nb hb0
  have dk11 : decide (s.kd = 11) = true := by simp [k11]
  obtain ⟨a1, e1, A', fr', st', hla, s1, s2, hp, hr⟩ := tw_State H0.out hs.a (Tch s.kd)
  have HP := hide2 hp
  have HRR := hide2 hr
  have HLA := hide2 hla
  clear hp hr hla
  go_enter Tryz.func11, Tryz.ntmps11
  go_wp2_with fail
  rw [k11] at hw0
  rw [← hw0]
  refine HP.out.mono ?_
  rintro e w1 ⟨rfl, m', u', hm', ht, hfr, ha⟩
  have hmid := HRR.out w1 (H0.out.mid ha)
  have HMID := hide2 hmid
  have nb1 : w1.heap[w.heap.size]? = some (.cells #[.int .i64 s.kd, .int .i64 s.a, .int .i64 s.b, .int .i64 s.c, .int .u64 s.v, .int .u64 s.x, .string s.t] 39 (0, 0)) := by
    obtain ⟨K1, _, _, hF⟩ := ha
    exact (hF.block _ (by omega) nK).trans NB.out
  have e1 : w1.cell? ⟨w.heap.size, 1, none⟩ = some (.int .i64 s.a) := box_cell nb1 rfl
  have HA := hide2 ha
  have HT := hide2 ht
  clear HP hmid ha ht nb1 b0 b1 b2 b3 b4 b5 b6
  go_wp2_with fail
  refine HMID.out.mono ?_
  rintro e w2 ⟨rfl, hraf⟩
  have RET := hide2 (H.out.done (tch := Tch s.kd) HB.out (H0.out.fin HA.out hraf hfr HLA.out hm' ⟨s1, s2⟩ hi) HT.out)
  clear HMID hraf HA HT HLA HRR
  go_wp2
  go_ret
  exact ⟨wret_bool (by simp), RET.out⟩
set_option maxRecDepth 100000 in
set_option maxHeartbeats 8000000 in
theorem loads_14 (h : Bo w K J sb d z rb A u m st i) (hi : i < 6000) {s : Stp} (hs : s.ok) (k14 : s.kd = 14) :
    Calls Tryz.prog 11 #[.pointer (some ⟨sb, 0, none⟩), .pointer (some ⟨rb, 0, none⟩), .agg #[.int .i64 s.kd, .int .i64 s.a, .int .i64 s.b, .int .i64 s.c, .int .u64 s.v, .int .u64 s.x, .string s.t]] w fun e w' => e = .returned (.bool true) ∧ BoR w w' K J sb d z rb m st (i + 1) (Tch s.kd) := by
  obtain ⟨w0, hw0⟩ : ∃ q, q = w.alloc (.cells #[.int .i64 s.kd, .int .i64 s.a, .int .i64 s.b, .int .i64 s.c, .int .u64 s.v, .int .u64 s.x, .string s.t] 39) := ⟨_, rfl⟩
  have hb0 : Below w.heap.size w w0 := by rw [hw0]; exact (Below.refl _ _).alloc (Nat.le_refl _) _
  have nb : w0.heap[w.heap.size]? = some (.cells #[.int .i64 s.kd, .int .i64 s.a, .int .i64 s.b, .int .i64 s.c, .int .u64 s.v, .int .u64 s.x, .string s.t] 39 (0, 0)) := by rw [hw0]; exact heap_alloc_new w _
  have hs0 : w0.heap.size = w.heap.size + 1 := by rw [hw0]; simp
  have h0 := h.below hb0
  have b0 : (w.alloc (.cells #[.int .i64 s.kd, .int .i64 s.a, .int .i64 s.b, .int .i64 s.c, .int .u64 s.v, .int .u64 s.x, .string s.t] 39)).cell? ⟨w.heap.size, 0, none⟩ = some (.int .i64 s.kd) := by rw [← hw0]; exact box_cell nb rfl
  have b1 : (w.alloc (.cells #[.int .i64 s.kd, .int .i64 s.a, .int .i64 s.b, .int .i64 s.c, .int .u64 s.v, .int .u64 s.x, .string s.t] 39)).cell? ⟨w.heap.size, 1, none⟩ = some (.int .i64 s.a) := by rw [← hw0]; exact box_cell nb rfl
  have b2 : (w.alloc (.cells #[.int .i64 s.kd, .int .i64 s.a, .int .i64 s.b, .int .i64 s.c, .int .u64 s.v, .int .u64 s.x, .string s.t] 39)).cell? ⟨w.heap.size, 2, none⟩ = some (.int .i64 s.b) := by rw [← hw0]; exact box_cell nb rfl
  have b3 : (w.alloc (.cells #[.int .i64 s.kd, .int .i64 s.a, .int .i64 s.b, .int .i64 s.c, .int .u64 s.v, .int .u64 s.x, .string s.t] 39)).cell? ⟨w.heap.size, 3, none⟩ = some (.int .i64 s.c) := by rw [← hw0]; exact box_cell nb rfl
  have b4 : (w.alloc (.cells #[.int .i64 s.kd, .int .i64 s.a, .int .i64 s.b, .int .i64 s.c, .int .u64 s.v, .int .u64 s.x, .string s.t] 39)).cell? ⟨w.heap.size, 4, none⟩ = some (.int .u64 s.v) := by rw [← hw0]; exact box_cell nb rfl
  have b5 : (w.alloc (.cells #[.int .i64 s.kd, .int .i64 s.a, .int .i64 s.b, .int .i64 s.c, .int .u64 s.v, .int .u64 s.x, .string s.t] 39)).cell? ⟨w.heap.size, 5, none⟩ = some (.int .u64 s.x) := by rw [← hw0]; exact box_cell nb rfl
  have b6 : (w.alloc (.cells #[.int .i64 s.kd, .int .i64 s.a, .int .i64 s.b, .int .i64 s.c, .int .u64 s.v, .int .u64 s.x, .string s.t] 39)).cell? ⟨w.heap.size, 6, none⟩ = some (.string s.t) := by rw [← hw0]; exact box_cell nb rfl
  have nK : ¬ K w.heap.size := fun e => by have := h.p.kl _ e; omega
  have H := hide2 h
  have H0 := hide2 h0
  have NB := hide2 nb
  have HB := hide2 hb0
  clear h h0 nb hb0
  have dk14 : decide (s.kd = 14) = true := by simp [k14]
  obtain ⟨a1, e1, A', fr', st', hla, s1, s2, hp, hr⟩ := tw_Lock H0.out hs.a (Tch s.kd)
  have HP := hide2 hp
  have HRR := hide2 hr
  have HLA := hide2 hla
  clear hp hr hla
  go_enter Tryz.func11, Tryz.ntmps11
  go_wp2_with fail
  rw [k14] at hw0
  rw [← hw0]
  refine HP.out.mono ?_
  rintro e w1 ⟨rfl, m', u', hm', ht, hfr, ha⟩
  have hmid := HRR.out w1 (H0.out.mid ha)
  have HMID := hide2 hmid
  have nb1 : w1.heap[w.heap.size]? = some (.cells #[.int .i64 s.kd, .int .i64 s.a, .int .i64 s.b, .int .i64 s.c, .int .u64 s.v, .int .u64 s.x, .string s.t] 39 (0, 0)) := by
    obtain ⟨K1, _, _, hF⟩ := ha
    exact (hF.block _ (by omega) nK).trans NB.out
  have e1 : w1.cell? ⟨w.heap.size, 1, none⟩ = some (.int .i64 s.a) := box_cell nb1 rfl
  have HA := hide2 ha
  have HT := hide2 ht
  clear HP hmid ha ht nb1 b0 b1 b2 b3 b4 b5 b6
  go_wp2_with fail
  refine HMID.out.mono ?_
  rintro e w2 ⟨rfl, hraf⟩
  have RET := hide2 (H.out.done (tch := Tch s.kd) HB.out (H0.out.fin HA.out hraf hfr HLA.out hm' ⟨s1, s2⟩ hi) HT.out)
  clear HMID hraf HA HT HLA HRR
  go_wp2
  go_ret
  exact ⟨wret_bool (by simp), RET.out⟩
set_option maxRecDepth 100000 in
set_option maxHeartbeats 8000000 in
theorem loads_8 (h : Bo w K J sb d z rb A u m st i) (hi : i < 6000) {s : Stp} (hs : s.ok) (k8 : s.kd = 8) :
    Calls Tryz.prog 11 #[.pointer (some ⟨sb, 0, none⟩), .pointer (some ⟨rb, 0, none⟩), .agg #[.int .i64 s.kd, .int .i64 s.a, .int .i64 s.b, .int .i64 s.c, .int .u64 s.v, .int .u64 s.x, .string s.t]] w fun e w' => e = .returned (.bool true) ∧ BoR w w' K J sb d z rb m st (i + 1) (Tch s.kd) := by
  obtain ⟨w0, hw0⟩ : ∃ q, q = w.alloc (.cells #[.int .i64 s.kd, .int .i64 s.a, .int .i64 s.b, .int .i64 s.c, .int .u64 s.v, .int .u64 s.x, .string s.t] 39) := ⟨_, rfl⟩
  have hb0 : Below w.heap.size w w0 := by rw [hw0]; exact (Below.refl _ _).alloc (Nat.le_refl _) _
  have nb : w0.heap[w.heap.size]? = some (.cells #[.int .i64 s.kd, .int .i64 s.a, .int .i64 s.b, .int .i64 s.c, .int .u64 s.v, .int .u64 s.x, .string s.t] 39 (0, 0)) := by rw [hw0]; exact heap_alloc_new w _
  have hs0 : w0.heap.size = w.heap.size + 1 := by rw [hw0]; simp
  have h0 := h.below hb0
  have b0 : (w.alloc (.cells #[.int .i64 s.kd, .int .i64 s.a, .int .i64 s.b, .int .i64 s.c, .int .u64 s.v, .int .u64 s.x, .string s.t] 39)).cell? ⟨w.heap.size, 0, none⟩ = some (.int .i64 s.kd) := by rw [← hw0]; exact box_cell nb rfl
  have b1 : (w.alloc (.cells #[.int .i64 s.kd, .int .i64 s.a, .int .i64 s.b, .int .i64 s.c, .int .u64 s.v, .int .u64 s.x, .string s.t] 39)).cell? ⟨w.heap.size, 1, none⟩ = some (.int .i64 s.a) := by rw [← hw0]; exact box_cell nb rfl
  have b2 : (w.alloc (.cells #[.int .i64 s.kd, .int .i64 s.a, .int .i64 s.b, .int .i64 s.c, .int .u64 s.v, .int .u64 s.x, .string s.t] 39)).cell? ⟨w.heap.size, 2, none⟩ = some (.int .i64 s.b) := by rw [← hw0]; exact box_cell nb rfl
  have b3 : (w.alloc (.cells #[.int .i64 s.kd, .int .i64 s.a, .int .i64 s.b, .int .i64 s.c, .int .u64 s.v, .int .u64 s.x, .string s.t] 39)).cell? ⟨w.heap.size, 3, none⟩ = some (.int .i64 s.c) := by rw [← hw0]; exact box_cell nb rfl
  have b4 : (w.alloc (.cells #[.int .i64 s.kd, .int .i64 s.a, .int .i64 s.b, .int .i64 s.c, .int .u64 s.v, .int .u64 s.x, .string s.t] 39)).cell? ⟨w.heap.size, 4, none⟩ = some (.int .u64 s.v) := by rw [← hw0]; exact box_cell nb rfl
  have b5 : (w.alloc (.cells #[.int .i64 s.kd, .int .i64 s.a, .int .i64 s.b, .int .i64 s.c, .int .u64 s.v, .int .u64 s.x, .string s.t] 39)).cell? ⟨w.heap.size, 5, none⟩ = some (.int .u64 s.x) := by rw [← hw0]; exact box_cell nb rfl
  have b6 : (w.alloc (.cells #[.int .i64 s.kd, .int .i64 s.a, .int .i64 s.b, .int .i64 s.c, .int .u64 s.v, .int .u64 s.x, .string s.t] 39)).cell? ⟨w.heap.size, 6, none⟩ = some (.string s.t) := by rw [← hw0]; exact box_cell nb rfl
  have nK : ¬ K w.heap.size := fun e => by have := h.p.kl _ e; omega
  have H := hide2 h
  have H0 := hide2 h0
  have NB := hide2 nb
  have HB := hide2 hb0
  clear h h0 nb hb0
  have dk8 : decide (s.kd = 8) = true := by simp [k8]
  obtain ⟨e1, A', fr', st', hla, s1, s2, hp, hr⟩ := tw_SetBegin H0.out hs.a hs.v (Tch s.kd)
  have HP := hide2 hp
  have HRR := hide2 hr
  have HLA := hide2 hla
  clear hp hr hla
  go_enter Tryz.func11, Tryz.ntmps11
  go_wp2_with fail
  rw [k8] at hw0
  rw [← hw0]
  refine HP.out.mono ?_
  rintro e w1 ⟨rfl, m', u', hm', ht, hfr, ha⟩
  have hmid := HRR.out w1 (H0.out.mid ha)
  have HMID := hide2 hmid
  have nb1 : w1.heap[w.heap.size]? = some (.cells #[.int .i64 s.kd, .int .i64 s.a, .int .i64 s.b, .int .i64 s.c, .int .u64 s.v, .int .u64 s.x, .string s.t] 39 (0, 0)) := by
    obtain ⟨K1, _, _, hF⟩ := ha
    exact (hF.block _ (by omega) nK).trans NB.out
  have e1 : w1.cell? ⟨w.heap.size, 1, none⟩ = some (.int .i64 s.a) := box_cell nb1 rfl
  have e4 : w1.cell? ⟨w.heap.size, 4, none⟩ = some (.int .u64 s.v) := box_cell nb1 rfl
  have HA := hide2 ha
  have HT := hide2 ht
  clear HP hmid ha ht nb1 b0 b1 b2 b3 b4 b5 b6
  go_wp2_with fail
  refine HMID.out.mono ?_
  rintro e w2 ⟨rfl, hraf⟩
  have RET := hide2 (H.out.done (tch := Tch s.kd) HB.out (H0.out.fin HA.out hraf hfr HLA.out hm' ⟨s1, s2⟩ hi) HT.out)
  clear HMID hraf HA HT HLA HRR
  go_wp2
  go_ret
  exact ⟨wret_bool (by simp), RET.out⟩
set_option maxRecDepth 100000 in
set_option maxHeartbeats 8000000 in
theorem loads_9 (h : Bo w K J sb d z rb A u m st i) (hi : i < 6000) {s : Stp} (hs : s.ok) (k9 : s.kd = 9) :
    Calls Tryz.prog 11 #[.pointer (some ⟨sb, 0, none⟩), .pointer (some ⟨rb, 0, none⟩), .agg #[.int .i64 s.kd, .int .i64 s.a, .int .i64 s.b, .int .i64 s.c, .int .u64 s.v, .int .u64 s.x, .string s.t]] w fun e w' => e = .returned (.bool true) ∧ BoR w w' K J sb d z rb m st (i + 1) (Tch s.kd) := by
  obtain ⟨w0, hw0⟩ : ∃ q, q = w.alloc (.cells #[.int .i64 s.kd, .int .i64 s.a, .int .i64 s.b, .int .i64 s.c, .int .u64 s.v, .int .u64 s.x, .string s.t] 39) := ⟨_, rfl⟩
  have hb0 : Below w.heap.size w w0 := by rw [hw0]; exact (Below.refl _ _).alloc (Nat.le_refl _) _
  have nb : w0.heap[w.heap.size]? = some (.cells #[.int .i64 s.kd, .int .i64 s.a, .int .i64 s.b, .int .i64 s.c, .int .u64 s.v, .int .u64 s.x, .string s.t] 39 (0, 0)) := by rw [hw0]; exact heap_alloc_new w _
  have hs0 : w0.heap.size = w.heap.size + 1 := by rw [hw0]; simp
  have h0 := h.below hb0
  have b0 : (w.alloc (.cells #[.int .i64 s.kd, .int .i64 s.a, .int .i64 s.b, .int .i64 s.c, .int .u64 s.v, .int .u64 s.x, .string s.t] 39)).cell? ⟨w.heap.size, 0, none⟩ = some (.int .i64 s.kd) := by rw [← hw0]; exact box_cell nb rfl
  have b1 : (w.alloc (.cells #[.int .i64 s.kd, .int .i64 s.a, .int .i64 s.b, .int .i64 s.c, .int .u64 s.v, .int .u64 s.x, .string s.t] 39)).cell? ⟨w.heap.size, 1, none⟩ = some (.int .i64 s.a) := by rw [← hw0]; exact box_cell nb rfl
  have b2 : (w.alloc (.cells #[.int .i64 s.kd, .int .i64 s.a, .int .i64 s.b, .int .i64 s.c, .int .u64 s.v, .int .u64 s.x, .string s.t] 39)).cell? ⟨w.heap.size, 2, none⟩ = some (.int .i64 s.b) := by rw [← hw0]; exact box_cell nb rfl
  have b3 : (w.alloc (.cells #[.int .i64 s.kd, .int .i64 s.a, .int .i64 s.b, .int .i64 s.c, .int .u64 s.v, .int .u64 s.x, .string s.t] 39)).cell? ⟨w.heap.size, 3, none⟩ = some (.int .i64 s.c) := by rw [← hw0]; exact box_cell nb rfl
  have b4 : (w.alloc (.cells #[.int .i64 s.kd, .int .i64 s.a, .int .i64 s.b, .int .i64 s.c, .int .u64 s.v, .int .u64 s.x, .string s.t] 39)).cell? ⟨w.heap.size, 4, none⟩ = some (.int .u64 s.v) := by rw [← hw0]; exact box_cell nb rfl
  have b5 : (w.alloc (.cells #[.int .i64 s.kd, .int .i64 s.a, .int .i64 s.b, .int .i64 s.c, .int .u64 s.v, .int .u64 s.x, .string s.t] 39)).cell? ⟨w.heap.size, 5, none⟩ = some (.int .u64 s.x) := by rw [← hw0]; exact box_cell nb rfl
  have b6 : (w.alloc (.cells #[.int .i64 s.kd, .int .i64 s.a, .int .i64 s.b, .int .i64 s.c, .int .u64 s.v, .int .u64 s.x, .string s.t] 39)).cell? ⟨w.heap.size, 6, none⟩ = some (.string s.t) := by rw [← hw0]; exact box_cell nb rfl
  have nK : ¬ K w.heap.size := fun e => by have := h.p.kl _ e; omega
  have H := hide2 h
  have H0 := hide2 h0
  have NB := hide2 nb
  have HB := hide2 hb0
  clear h h0 nb hb0
  have dk9 : decide (s.kd = 9) = true := by simp [k9]
  obtain ⟨e1, A', fr', st', hla, s1, s2, hp, hr⟩ := tw_SetEnd H0.out hs.a hs.v (Tch s.kd)
  have HP := hide2 hp
  have HRR := hide2 hr
  have HLA := hide2 hla
  clear hp hr hla
  go_enter Tryz.func11, Tryz.ntmps11
  go_wp2_with fail
  rw [k9] at hw0
  rw [← hw0]
  refine HP.out.mono ?_
  rintro e w1 ⟨rfl, m', u', hm', ht, hfr, ha⟩
  have hmid := HRR.out w1 (H0.out.mid ha)
  have HMID := hide2 hmid
  have nb1 : w1.heap[w.heap.size]? = some (.cells #[.int .i64 s.kd, .int .i64 s.a, .int .i64 s.b, .int .i64 s.c, .int .u64 s.v, .int .u64 s.x, .string s.t] 39 (0, 0)) := by
    obtain ⟨K1, _, _, hF⟩ := ha
    exact (hF.block _ (by omega) nK).trans NB.out
  have e1 : w1.cell? ⟨w.heap.size, 1, none⟩ = some (.int .i64 s.a) := box_cell nb1 rfl
  have e4 : w1.cell? ⟨w.heap.size, 4, none⟩ = some (.int .u64 s.v) := box_cell nb1 rfl
  have HA := hide2 ha
  have HT := hide2 ht
  clear HP hmid ha ht nb1 b0 b1 b2 b3 b4 b5 b6
  go_wp2_with fail
  refine HMID.out.mono ?_
  rintro e w2 ⟨rfl, hraf⟩
  have RET := hide2 (H.out.done (tch := Tch s.kd) HB.out (H0.out.fin HA.out hraf hfr HLA.out hm' ⟨s1, s2⟩ hi) HT.out)
  clear HMID hraf HA HT HLA HRR
  go_wp2
  go_ret
  exact ⟨wret_bool (by simp), RET.out⟩
set_option maxRecDepth 100000 in
set_option maxHeartbeats 8000000 in
theorem loads_12 (h : Bo w K J sb d z rb A u m st i) (hi : i < 6000) {s : Stp} (hs : s.ok) (k12 : s.kd = 12) :
    Calls Tryz.prog 11 #[.pointer (some ⟨sb, 0, none⟩), .pointer (some ⟨rb, 0, none⟩), .agg #[.int .i64 s.kd, .int .i64 s.a, .int .i64 s.b, .int .i64 s.c, .int .u64 s.v, .int .u64 s.x, .string s.t]] w fun e w' => e = .returned (.bool true) ∧ BoR w w' K J sb d z rb m st (i + 1) (Tch s.kd) := by
  obtain ⟨w0, hw0⟩ : ∃ q, q = w.alloc (.cells #[.int .i64 s.kd, .int .i64 s.a, .int .i64 s.b, .int .i64 s.c, .int .u64 s.v, .int .u64 s.x, .string s.t] 39) := ⟨_, rfl⟩
  have hb0 : Below w.heap.size w w0 := by rw [hw0]; exact (Below.refl _ _).alloc (Nat.le_refl _) _
  have nb : w0.heap[w.heap.size]? = some (.cells #[.int .i64 s.kd, .int .i64 s.a, .int .i64 s.b, .int .i64 s.c, .int .u64 s.v, .int .u64 s.x, .string s.t] 39 (0, 0)) := by rw [hw0]; exact heap_alloc_new w _
  have hs0 : w0.heap.size = w.heap.size + 1 := by rw [hw0]; simp
  have h0 := h.below hb0
  have b0 : (w.alloc (.cells #[.int .i64 s.kd, .int .i64 s.a, .int .i64 s.b, .int .i64 s.c, .int .u64 s.v, .int .u64 s.x, .string s.t] 39)).cell? ⟨w.heap.size, 0, none⟩ = some (.int .i64 s.kd) := by rw [← hw0]; exact box_cell nb rfl
  have b1 : (w.alloc (.cells #[.int .i64 s.kd, .int .i64 s.a, .int .i64 s.b, .int .i64 s.c, .int .u64 s.v, .int .u64 s.x, .string s.t] 39)).cell? ⟨w.heap.size, 1, none⟩ = some (.int .i64 s.a) := by rw [← hw0]; exact box_cell nb rfl
  have b2 : (w.alloc (.cells #[.int .i64 s.kd, .int .i64 s.a, .int .i64 s.b, .int .i64 s.c, .int .u64 s.v, .int .u64 s.x, .string s.t] 39)).cell? ⟨w.heap.size, 2, none⟩ = some (.int .i64 s.b) := by rw [← hw0]; exact box_cell nb rfl
  have b3 : (w.alloc (.cells #[.int .i64 s.kd, .int .i64 s.a, .int .i64 s.b, .int .i64 s.c, .int .u64 s.v, .int .u64 s.x, .string s.t] 39)).cell? ⟨w.heap.size, 3, none⟩ = some (.int .i64 s.c) := by rw [← hw0]; exact box_cell nb rfl
  have b4 : (w.alloc (.cells #[.int .i64 s.kd, .int .i64 s.a, .int .i64 s.b, .int .i64 s.c, .int .u64 s.v, .int .u64 s.x, .string s.t] 39)).cell? ⟨w.heap.size, 4, none⟩ = some (.int .u64 s.v) := by rw [← hw0]; exact box_cell nb rfl
  have b5 : (w.alloc (.cells #[.int .i64 s.kd, .int .i64 s.a, .int .i64 s.b, .int .i64 s.c, .int .u64 s.v, .int .u64 s.x, .string s.t] 39)).cell? ⟨w.heap.size, 5, none⟩ = some (.int .u64 s.x) := by rw [← hw0]; exact box_cell nb rfl
  have b6 : (w.alloc (.cells #[.int .i64 s.kd, .int .i64 s.a, .int .i64 s.b, .int .i64 s.c, .int .u64 s.v, .int .u64 s.x, .string s.t] 39)).cell? ⟨w.heap.size, 6, none⟩ = some (.string s.t) := by rw [← hw0]; exact box_cell nb rfl
  have nK : ¬ K w.heap.size := fun e => by have := h.p.kl _ e; omega
  have H := hide2 h
  have H0 := hide2 h0
  have NB := hide2 nb
  have HB := hide2 hb0
  clear h h0 nb hb0
  have dk12 : decide (s.kd = 12) = true := by simp [k12]
  obtain ⟨e1, A', fr', st', hla, s1, s2, hp, hr⟩ := tw_SetState H0.out hs.a hs.v (Tch s.kd)
  have HP := hide2 hp
  have HRR := hide2 hr
  have HLA := hide2 hla
  clear hp hr hla
  go_enter Tryz.func11, Tryz.ntmps11
  go_wp2_with fail
  rw [k12] at hw0
  rw [← hw0]
  refine HP.out.mono ?_
  rintro e w1 ⟨rfl, m', u', hm', ht, hfr, ha⟩
  have hmid := HRR.out w1 (H0.out.mid ha)
  have HMID := hide2 hmid
  have nb1 : w1.heap[w.heap.size]? = some (.cells #[.int .i64 s.kd, .int .i64 s.a, .int .i64 s.b, .int .i64 s.c, .int .u64 s.v, .int .u64 s.x, .string s.t] 39 (0, 0)) := by
    obtain ⟨K1, _, _, hF⟩ := ha
    exact (hF.block _ (by omega) nK).trans NB.out
  have e1 : w1.cell? ⟨w.heap.size, 1, none⟩ = some (.int .i64 s.a) := box_cell nb1 rfl
  have e4 : w1.cell? ⟨w.heap.size, 4, none⟩ = some (.int .u64 s.v) := box_cell nb1 rfl
  have HA := hide2 ha
  have HT := hide2 ht
  clear HP hmid ha ht nb1 b0 b1 b2 b3 b4 b5 b6
  go_wp2_with fail
  refine HMID.out.mono ?_
  rintro e w2 ⟨rfl, hraf⟩
  have RET := hide2 (H.out.done (tch := Tch s.kd) HB.out (H0.out.fin HA.out hraf hfr HLA.out hm' ⟨s1, s2⟩ hi) HT.out)
  clear HMID hraf HA HT HLA HRR
  go_wp2
  go_ret
  exact ⟨wret_bool (by simp), RET.out⟩
set_option maxRecDepth 100000 in
set_option maxHeartbeats 8000000 in
theorem loads_13 (h : Bo w K J sb d z rb A u m st i) (hi : i < 6000) {s : Stp} (hs : s.ok) (k13 : s.kd = 13) :
    Calls Tryz.prog 11 #[.pointer (some ⟨sb, 0, none⟩), .pointer (some ⟨rb, 0, none⟩), .agg #[.int .i64 s.kd, .int .i64 s.a, .int .i64 s.b, .int .i64 s.c, .int .u64 s.v, .int .u64 s.x, .string s.t]] w fun e w' => e = .returned (.bool true) ∧ BoR w w' K J sb d z rb m st (i + 1) (Tch s.kd) := by
  obtain ⟨w0, hw0⟩ : ∃ q, q = w.alloc (.cells #[.int .i64 s.kd, .int .i64 s.a, .int .i64 s.b, .int .i64 s.c, .int .u64 s.v, .int .u64 s.x, .string s.t] 39) := ⟨_, rfl⟩
  have hb0 : Below w.heap.size w w0 := by rw [hw0]; exact (Below.refl _ _).alloc (Nat.le_refl _) _
  have nb : w0.heap[w.heap.size]? = some (.cells #[.int .i64 s.kd, .int .i64 s.a, .int .i64 s.b, .int .i64 s.c, .int .u64 s.v, .int .u64 s.x, .string s.t] 39 (0, 0)) := by rw [hw0]; exact heap_alloc_new w _
  have hs0 : w0.heap.size = w.heap.size + 1 := by rw [hw0]; simp
  have h0 := h.below hb0
  have b0 : (w.alloc (.cells #[.int .i64 s.kd, .int .i64 s.a, .int .i64 s.b, .int .i64 s.c, .int .u64 s.v, .int .u64 s.x, .string s.t] 39)).cell? ⟨w.heap.size, 0, none⟩ = some (.int .i64 s.kd) := by rw [← hw0]; exact box_cell nb rfl
  have b1 : (w.alloc (.cells #[.int .i64 s.kd, .int .i64 s.a, .int .i64 s.b, .int .i64 s.c, .int .u64 s.v, .int .u64 s.x, .string s.t] 39)).cell? ⟨w.heap.size, 1, none⟩ = some (.int .i64 s.a) := by rw [← hw0]; exact box_cell nb rfl
  have b2 : (w.alloc (.cells #[.int .i64 s.kd, .int .i64 s.a, .int .i64 s.b, .int .i64 s.c, .int .u64 s.v, .int .u64 s.x, .string s.t] 39)).cell? ⟨w.heap.size, 2, none⟩ = some (.int .i64 s.b) := by rw [← hw0]; exact box_cell nb rfl
  have b3 : (w.alloc (.cells #[.int .i64 s.kd, .int .i64 s.a, .int .i64 s.b, .int .i64 s.c, .int .u64 s.v, .int .u64 s.x, .string s.t] 39)).cell? ⟨w.heap.size, 3, none⟩ = some (.int .i64 s.c) := by rw [← hw0]; exact box_cell nb rfl
  have b4 : (w.alloc (.cells #[.int .i64 s.kd, .int .i64 s.a, .int .i64 s.b, .int .i64 s.c, .int .u64 s.v, .int .u64 s.x, .string s.t] 39)).cell? ⟨w.heap.size, 4, none⟩ = some (.int .u64 s.v) := by rw [← hw0]; exact box_cell nb rfl
  have b5 : (w.alloc (.cells #[.int .i64 s.kd, .int .i64 s.a, .int .i64 s.b, .int .i64 s.c, .int .u64 s.v, .int .u64 s.x, .string s.t] 39)).cell? ⟨w.heap.size, 5, none⟩ = some (.int .u64 s.x) := by rw [← hw0]; exact box_cell nb rfl
  have b6 : (w.alloc (.cells #[.int .i64 s.kd, .int .i64 s.a, .int .i64 s.b, .int .i64 s.c, .int .u64 s.v, .int .u64 s.x, .string s.t] 39)).cell? ⟨w.heap.size, 6, none⟩ = some (.string s.t) := by rw [← hw0]; exact box_cell nb rfl
  have nK : ¬ K w.heap.size := fun e => by have := h.p.kl _ e; omega
  have H := hide2 h
  have H0 := hide2 h0
  have NB := hide2 nb
  have HB := hide2 hb0
  clear h h0 nb hb0
  have dk13 : decide (s.kd = 13) = true := by simp [k13]
  obtain ⟨e1, A', fr', st', hla, s1, s2, hp, hr⟩ := tw_Forget H0.out hs.a (tch := Tch s.kd) (by unfold Tch; omega)
  have HP := hide2 hp
  have HRR := hide2 hr
  have HLA := hide2 hla
  clear hp hr hla
  go_enter Tryz.func11, Tryz.ntmps11
  go_wp2_with fail
  rw [k13] at hw0
  rw [← hw0]
  refine HP.out.mono ?_
  rintro e w1 ⟨rfl, m', u', hm', ht, hfr, ha⟩
  have hmid := HRR.out w1 (H0.out.mid ha)
  have HMID := hide2 hmid
  have nb1 : w1.heap[w.heap.size]? = some (.cells #[.int .i64 s.kd, .int .i64 s.a, .int .i64 s.b, .int .i64 s.c, .int .u64 s.v, .int .u64 s.x, .string s.t] 39 (0, 0)) := by
    obtain ⟨K1, _, _, hF⟩ := ha
    exact (hF.block _ (by omega) nK).trans NB.out
  have e1 : w1.cell? ⟨w.heap.size, 1, none⟩ = some (.int .i64 s.a) := box_cell nb1 rfl
  have HA := hide2 ha
  have HT := hide2 ht
  clear HP hmid ha ht nb1 b0 b1 b2 b3 b4 b5 b6
  go_wp2_with fail
  refine HMID.out.mono ?_
  rintro e w2 ⟨rfl, hraf⟩
  have RET := hide2 (H.out.done (tch := Tch s.kd) HB.out (H0.out.fin HA.out hraf hfr HLA.out hm' ⟨s1, s2⟩ hi) HT.out)
  clear HMID hraf HA HT HLA HRR
  go_wp2
  go_ret
  exact ⟨wret_bool (by simp), RET.out⟩
set_option maxRecDepth 100000 in
set_option maxHeartbeats 8000000 in
theorem loads_17 (h : Bo w K J sb d z rb A u m st i) (hi : i < 6000) {s : Stp} (hs : s.ok) (k17 : s.kd = 17) :
    Calls Tryz.prog 11 #[.pointer (some ⟨sb, 0, none⟩), .pointer (some ⟨rb, 0, none⟩), .agg #[.int .i64 s.kd, .int .i64 s.a, .int .i64 s.b, .int .i64 s.c, .int .u64 s.v, .int .u64 s.x, .string s.t]] w fun e w' => e = .returned (.bool true) ∧ BoR w w' K J sb d z rb m st (i + 1) (Tch s.kd) := by
  obtain ⟨w0, hw0⟩ : ∃ q, q = w.alloc (.cells #[.int .i64 s.kd, .int .i64 s.a, .int .i64 s.b, .int .i64 s.c, .int .u64 s.v, .int .u64 s.x, .string s.t] 39) := ⟨_, rfl⟩
  have hb0 : Below w.heap.size w w0 := by rw [hw0]; exact (Below.refl _ _).alloc (Nat.le_refl _) _
  have nb : w0.heap[w.heap.size]? = some (.cells #[.int .i64 s.kd, .int .i64 s.a, .int .i64 s.b, .int .i64 s.c, .int .u64 s.v, .int .u64 s.x, .string s.t] 39 (0, 0)) := by rw [hw0]; exact heap_alloc_new w _
  have hs0 : w0.heap.size = w.heap.size + 1 := by rw [hw0]; simp
  have h0 := h.below hb0
  have b0 : (w.alloc (.cells #[.int .i64 s.kd, .int .i64 s.a, .int .i64 s.b, .int .i64 s.c, .int .u64 s.v, .int .u64 s.x, .string s.t] 39)).cell? ⟨w.heap.size, 0, none⟩ = some (.int .i64 s.kd) := by rw [← hw0]; exact box_cell nb rfl
  have b1 : (w.alloc (.cells #[.int .i64 s.kd, .int .i64 s.a, .int .i64 s.b, .int .i64 s.c, .int .u64 s.v, .int .u64 s.x, .string s.t] 39)).cell? ⟨w.heap.size, 1, none⟩ = some (.int .i64 s.a) := by rw [← hw0]; exact box_cell nb rfl
  have b2 : (w.alloc (.cells #[.int .i64 s.kd, .int .i64 s.a, .int .i64 s.b, .int .i64 s.c, .int .u64 s.v, .int .u64 s.x, .string s.t] 39)).cell? ⟨w.heap.size, 2, none⟩ = some (.int .i64 s.b) := by rw [← hw0]; exact box_cell nb rfl
  have b3 : (w.alloc (.cells #[.int .i64 s.kd, .int .i64 s.a, .int .i64 s.b, .int .i64 s.c, .int .u64 s.v, .int .u64 s.x, .string s.t] 39)).cell? ⟨w.heap.size, 3, none⟩ = some (.int .i64 s.c) := by rw [← hw0]; exact box_cell nb rfl
  have b4 : (w.alloc (.cells #[.int .i64 s.kd, .int .i64 s.a, .int .i64 s.b, .int .i64 s.c, .int .u64 s.v, .int .u64 s.x, .string s.t] 39)).cell? ⟨w.heap.size, 4, none⟩ = some (.int .u64 s.v) := by rw [← hw0]; exact box_cell nb rfl
  have b5 : (w.alloc (.cells #[.int .i64 s.kd, .int .i64 s.a, .int .i64 s.b, .int .i64 s.c, .int .u64 s.v, .int .u64 s.x, .string s.t] 39)).cell? ⟨w.heap.size, 5, none⟩ = some (.int .u64 s.x) := by rw [← hw0]; exact box_cell nb rfl
  have b6 : (w.alloc (.cells #[.int .i64 s.kd, .int .i64 s.a, .int .i64 s.b, .int .i64 s.c, .int .u64 s.v, .int .u64 s.x, .string s.t] 39)).cell? ⟨w.heap.size, 6, none⟩ = some (.string s.t) := by rw [← hw0]; exact box_cell nb rfl
  have nK : ¬ K w.heap.size := fun e => by have := h.p.kl _ e; omega
  have H := hide2 h
  have H0 := hide2 h0
  have NB := hide2 nb
  have HB := hide2 hb0
  clear h h0 nb hb0
  have dk17 : decide (s.kd = 17) = true := by simp [k17]
  obtain ⟨e1, A', fr', st', hla, s1, s2, hp, hr⟩ := tw_Drop H0.out hs.a (tch := Tch s.kd) (by unfold Tch; omega)
  have HP := hide2 hp
  have HRR := hide2 hr
  have HLA := hide2 hla
  clear hp hr hla
  go_enter Tryz.func11, Tryz.ntmps11
  go_wp2_with fail
  rw [k17] at hw0
  rw [← hw0]
  refine HP.out.mono ?_
  rintro e w1 ⟨rfl, m', u', hm', ht, hfr, ha⟩
  have hmid := HRR.out w1 (H0.out.mid ha)
  have HMID := hide2 hmid
  have nb1 : w1.heap[w.heap.size]? = some (.cells #[.int .i64 s.kd, .int .i64 s.a, .int .i64 s.b, .int .i64 s.c, .int .u64 s.v, .int .u64 s.x, .string s.t] 39 (0, 0)) := by
    obtain ⟨K1, _, _, hF⟩ := ha
    exact (hF.block _ (by omega) nK).trans NB.out
  have e1 : w1.cell? ⟨w.heap.size, 1, none⟩ = some (.int .i64 s.a) := box_cell nb1 rfl
  have HA := hide2 ha
  have HT := hide2 ht
  clear HP hmid ha ht nb1 b0 b1 b2 b3 b4 b5 b6
  go_wp2_with fail
  refine HMID.out.mono ?_
  rintro e w2 ⟨rfl, hraf⟩
  have RET := hide2 (H.out.done (tch := Tch s.kd) HB.out (H0.out.fin HA.out hraf hfr HLA.out hm' ⟨s1, s2⟩ hi) HT.out)
  clear HMID hraf HA HT HLA HRR
  go_wp2
  go_ret
  exact ⟨wret_bool (by simp), RET.out⟩
set_option maxRecDepth 100000 in
set_option maxHeartbeats 8000000 in
theorem loads_7 (h : Bo w K J sb d z rb A u m st i) (hi : i < 6000) {s : Stp} (hs : s.ok) (k7 : s.kd = 7) :
    Calls Tryz.prog 11 #[.pointer (some ⟨sb, 0, none⟩), .pointer (some ⟨rb, 0, none⟩), .agg #[.int .i64 s.kd, .int .i64 s.a, .int .i64 s.b, .int .i64 s.c, .int .u64 s.v, .int .u64 s.x, .string s.t]] w fun e w' => e = .returned (.bool true) ∧ BoR w w' K J sb d z rb m st (i + 1) (Tch s.kd) := by
  obtain ⟨w0, hw0⟩ : ∃ q, q = w.alloc (.cells #[.int .i64 s.kd, .int .i64 s.a, .int .i64 s.b, .int .i64 s.c, .int .u64 s.v, .int .u64 s.x, .string s.t] 39) := ⟨_, rfl⟩
  have hb0 : Below w.heap.size w w0 := by rw [hw0]; exact (Below.refl _ _).alloc (Nat.le_refl _) _
  have nb : w0.heap[w.heap.size]? = some (.cells #[.int .i64 s.kd, .int .i64 s.a, .int .i64 s.b, .int .i64 s.c, .int .u64 s.v, .int .u64 s.x, .string s.t] 39 (0, 0)) := by rw [hw0]; exact heap_alloc_new w _
  have hs0 : w0.heap.size = w.heap.size + 1 := by rw [hw0]; simp
  have h0 := h.below hb0
  have b0 : (w.alloc (.cells #[.int .i64 s.kd, .int .i64 s.a, .int .i64 s.b, .int .i64 s.c, .int .u64 s.v, .int .u64 s.x, .string s.t] 39)).cell? ⟨w.heap.size, 0, none⟩ = some (.int .i64 s.kd) := by rw [← hw0]; exact box_cell nb rfl
  have b1 : (w.alloc (.cells #[.int .i64 s.kd, .int .i64 s.a, .int .i64 s.b, .int .i64 s.c, .int .u64 s.v, .int .u64 s.x, .string s.t] 39)).cell? ⟨w.heap.size, 1, none⟩ = some (.int .i64 s.a) := by rw [← hw0]; exact box_cell nb rfl
  have b2 : (w.alloc (.cells #[.int .i64 s.kd, .int .i64 s.a, .int .i64 s.b, .int .i64 s.c, .int .u64 s.v, .int .u64 s.x, .string s.t] 39)).cell? ⟨w.heap.size, 2, none⟩ = some (.int .i64 s.b) := by rw [← hw0]; exact box_cell nb rfl
  have b3 : (w.alloc (.cells #[.int .i64 s.kd, .int .i64 s.a, .int .i64 s.b, .int .i64 s.c, .int .u64 s.v, .int .u64 s.x, .string s.t] 39)).cell? ⟨w.heap.size, 3, none⟩ = some (.int .i64 s.c) := by rw [← hw0]; exact box_cell nb rfl
  have b4 : (w.alloc (.cells #[.int .i64 s.kd, .int .i64 s.a, .int .i64 s.b, .int .i64 s.c, .int .u64 s.v, .int .u64 s.x, .string s.t] 39)).cell? ⟨w.heap.size, 4, none⟩ = some (.int .u64 s.v) := by rw [← hw0]; exact box_cell nb rfl
  have b5 : (w.alloc (.cells #[.int .i64 s.kd, .int .i64 s.a, .int .i64 s.b, .int .i64 s.c, .int .u64 s.v, .int .u64 s.x, .string s.t] 39)).cell? ⟨w.heap.size, 5, none⟩ = some (.int .u64 s.x) := by rw [← hw0]; exact box_cell nb rfl
  have b6 : (w.alloc (.cells #[.int .i64 s.kd, .int .i64 s.a, .int .i64 s.b, .int .i64 s.c, .int .u64 s.v, .int .u64 s.x, .string s.t] 39)).cell? ⟨w.heap.size, 6, none⟩ = some (.string s.t) := by rw [← hw0]; exact box_cell nb rfl
  have nK : ¬ K w.heap.size := fun e => by have := h.p.kl _ e; omega
  have H := hide2 h
  have H0 := hide2 h0
  have NB := hide2 nb
  have HB := hide2 hb0
  clear h h0 nb hb0
  have dk7 : decide (s.kd = 7) = true := by simp [k7]
  obtain ⟨a1, e1, A', fr', st', hla, s1, s2, hp, hr⟩ := tw_Val H0.out hs.a (Tch s.kd)
  have HP := hide2 hp
  have HRR := hide2 hr
  have HLA := hide2 hla
  clear hp hr hla
  go_enter Tryz.func11, Tryz.ntmps11
  go_wp2_with fail
  rw [k7] at hw0
  rw [← hw0]
  refine HP.out.mono ?_
  rintro e w1 ⟨rfl, m', u', hm', ht, hfr, ha⟩
  have hmid := HRR.out w1 (H0.out.mid ha)
  have HMID := hide2 hmid
  have nb1 : w1.heap[w.heap.size]? = some (.cells #[.int .i64 s.kd, .int .i64 s.a, .int .i64 s.b, .int .i64 s.c, .int .u64 s.v, .int .u64 s.x, .string s.t] 39 (0, 0)) := by
    obtain ⟨K1, _, _, hF⟩ := ha
    exact (hF.block _ (by omega) nK).trans NB.out
  have e1 : w1.cell? ⟨w.heap.size, 1, none⟩ = some (.int .i64 s.a) := box_cell nb1 rfl
  have HA := hide2 ha
  have HT := hide2 ht
  clear HP hmid ha ht nb1 b0 b1 b2 b3 b4 b5 b6
  go_wp2_with fail
  refine HMID.out.mono ?_
  rintro e w2 ⟨rfl, hraf⟩
  have RET := hide2 (H.out.done (tch := Tch s.kd) HB.out (H0.out.fin HA.out hraf hfr HLA.out hm' ⟨s1, s2⟩ hi) HT.out)
  clear HMID hraf HA HT HLA HRR
  go_wp2
  go_ret
  exact ⟨wret_bool (by simp), RET.out⟩
set_option maxRecDepth 100000 in
set_option maxHeartbeats 8000000 in
theorem loads_else (h : Bo w K J sb d z rb A u m st i) (hi : i < 6000) {s : Stp} (hs : s.ok) (k6 : s.kd ≠ 6) (k11 : s.kd ≠ 11) (k14 : s.kd ≠ 14) (k8 : s.kd ≠ 8) (k9 : s.kd ≠ 9) (k12 : s.kd ≠ 12) (k13 : s.kd ≠ 13) (k17 : s.kd ≠ 17) (k7 : s.kd ≠ 7) (k18 : s.kd ≠ 18) :
    Calls Tryz.prog 11 #[.pointer (some ⟨sb, 0, none⟩), .pointer (some ⟨rb, 0, none⟩), .agg #[.int .i64 s.kd, .int .i64 s.a, .int .i64 s.b, .int .i64 s.c, .int .u64 s.v, .int .u64 s.x, .string s.t]] w fun e w' => e = .returned (.bool true) ∧ BoR w w' K J sb d z rb m st (i + 1) (Tch s.kd) := by
  obtain ⟨w0, hw0⟩ : ∃ q, q = w.alloc (.cells #[.int .i64 s.kd, .int .i64 s.a, .int .i64 s.b, .int .i64 s.c, .int .u64 s.v, .int .u64 s.x, .string s.t] 39) := ⟨_, rfl⟩
  have hb0 : Below w.heap.size w w0 := by rw [hw0]; exact (Below.refl _ _).alloc (Nat.le_refl _) _
  have nb : w0.heap[w.heap.size]? = some (.cells #[.int .i64 s.kd, .int .i64 s.a, .int .i64 s.b, .int .i64 s.c, .int .u64 s.v, .int .u64 s.x, .string s.t] 39 (0, 0)) := by rw [hw0]; exact heap_alloc_new w _
  have hs0 : w0.heap.size = w.heap.size + 1 := by rw [hw0]; simp
  have h0 := h.below hb0
  have b0 : (w.alloc (.cells #[.int .i64 s.kd, .int .i64 s.a, .int .i64 s.b, .int .i64 s.c, .int .u64 s.v, .int .u64 s.x, .string s.t] 39)).cell? ⟨w.heap.size, 0, none⟩ = some (.int .i64 s.kd) := by rw [← hw0]; exact box_cell nb rfl
  have b1 : (w.alloc (.cells #[.int .i64 s.kd, .int .i64 s.a, .int .i64 s.b, .int .i64 s.c, .int .u64 s.v, .int .u64 s.x, .string s.t] 39)).cell? ⟨w.heap.size, 1, none⟩ = some (.int .i64 s.a) := by rw [← hw0]; exact box_cell nb rfl
  have b2 : (w.alloc (.cells #[.int .i64 s.kd, .int .i64 s.a, .int .i64 s.b, .int .i64 s.c, .int .u64 s.v, .int .u64 s.x, .string s.t] 39)).cell? ⟨w.heap.size, 2, none⟩ = some (.int .i64 s.b) := by rw [← hw0]; exact box_cell nb rfl
  have b3 : (w.alloc (.cells #[.int .i64 s.kd, .int .i64 s.a, .int .i64 s.b, .int .i64 s.c, .int .u64 s.v, .int .u64 s.x, .string s.t] 39)).cell? ⟨w.heap.size, 3, none⟩ = some (.int .i64 s.c) := by rw [← hw0]; exact box_cell nb rfl
  have b4 : (w.alloc (.cells #[.int .i64 s.kd, .int .i64 s.a, .int .i64 s.b, .int .i64 s.c, .int .u64 s.v, .int .u64 s.x, .string s.t] 39)).cell? ⟨w.heap.size, 4, none⟩ = some (.int .u64 s.v) := by rw [← hw0]; exact box_cell nb rfl
  have b5 : (w.alloc (.cells #[.int .i64 s.kd, .int .i64 s.a, .int .i64 s.b, .int .i64 s.c, .int .u64 s.v, .int .u64 s.x, .string s.t] 39)).cell? ⟨w.heap.size, 5, none⟩ = some (.int .u64 s.x) := by rw [← hw0]; exact box_cell nb rfl
  have b6 : (w.alloc (.cells #[.int .i64 s.kd, .int .i64 s.a, .int .i64 s.b, .int .i64 s.c, .int .u64 s.v, .int .u64 s.x, .string s.t] 39)).cell? ⟨w.heap.size, 6, none⟩ = some (.string s.t) := by rw [← hw0]; exact box_cell nb rfl
  have nK : ¬ K w.heap.size := fun e => by have := h.p.kl _ e; omega
  have H := hide2 h
  have H0 := hide2 h0
  have NB := hide2 nb
  have HB := hide2 hb0
  clear h h0 nb hb0
  have dk6 : decide (s.kd = 6) = false := by simp [k6]
  have dk11 : decide (s.kd = 11) = false := by simp [k11]
  have dk14 : decide (s.kd = 14) = false := by simp [k14]
  have dk8 : decide (s.kd = 8) = false := by simp [k8]
  have dk9 : decide (s.kd = 9) = false := by simp [k9]
  have dk12 : decide (s.kd = 12) = false := by simp [k12]
  have dk13 : decide (s.kd = 13) = false := by simp [k13]
  have dk17 : decide (s.kd = 17) = false := by simp [k17]
  have dk7 : decide (s.kd = 7) = false := by simp [k7]
  have dk18 : decide (s.kd = 18) = false := by simp [k18]
  have RET := hide2 (H.out.still (tch := Tch s.kd) hi HB.out)
  go_enter Tryz.func11, Tryz.ntmps11
  go_wp2_with fail
  try rw [← hw0]
  go_wp2
  go_ret
  exact ⟨rfl, RET.out⟩
end
end

section
open Go.RowKit Go.Maps

section
variable {w w' w1 w2 : World} {K J K1 : Nat → Prop} {sb d z rb u u' : Nat} {A A' : Stt} {m m' st st' fr' : Int} {i : Nat}
set_option maxRecDepth 100000 in
set_option maxHeartbeats 8000000 in
theorem loads_6 (h : Bo w K J sb d z rb A u m st i) (hi : i < 6000) {s : Stp} (hs : s.ok) (k6 : s.kd = 6) :
    Calls Tryz.prog 11 #[.pointer (some ⟨sb, 0, none⟩), .pointer (some ⟨rb, 0, none⟩), .agg #[.int .i64 s.kd, .int .i64 s.a, .int .i64 s.b, .int .i64 s.c, .int .u64 s.v, .int .u64 s.x, .string s.t]] w fun e w' => e = .returned (.bool true) ∧ BoR w w' K J sb d z rb m st (i + 1) (Tch s.kd) := by
  obtain ⟨w0, hw0⟩ : ∃ q, q = w.alloc (.cells #[.int .i64 s.kd, .int .i64 s.a, .int .i64 s.b, .int .i64 s.c, .int .u64 s.v, .int .u64 s.x, .string s.t] 39) := ⟨_, rfl⟩
  have hb0 : Below w.heap.size w w0 := by rw [hw0]; exact (Below.refl _ _).alloc (Nat.le_refl _) _
  have nb : w0.heap[w.heap.size]? = some (.cells #[.int .i64 s.kd, .int .i64 s.a, .int .i64 s.b, .int .i64 s.c, .int .u64 s.v, .int .u64 s.x, .string s.t] 39 (0, 0)) := by rw [hw0]; exact heap_alloc_new w _
  have hs0 : w0.heap.size = w.heap.size + 1 := by rw [hw0]; simp
  have h0 := h.below hb0
  have b0 : (w.alloc (.cells #[.int .i64 s.kd, .int .i64 s.a, .int .i64 s.b, .int .i64 s.c, .int .u64 s.v, .int .u64 s.x, .string s.t] 39)).cell? ⟨w.heap.size, 0, none⟩ = some (.int .i64 s.kd) := by rw [← hw0]; exact box_cell nb rfl
  have b1 : (w.alloc (.cells #[.int .i64 s.kd, .int .i64 s.a, .int .i64 s.b, .int .i64 s.c, .int .u64 s.v, .int .u64 s.x, .string s.t] 39)).cell? ⟨w.heap.size, 1, none⟩ = some (.int .i64 s.a) := by rw [← hw0]; exact box_cell nb rfl
  have b2 : (w.alloc (.cells #[.int .i64 s.kd, .int .i64 s.a, .int .i64 s.b, .int .i64 s.c, .int .u64 s.v, .int .u64 s.x, .string s.t] 39)).cell? ⟨w.heap.size, 2, none⟩ = some (.int .i64 s.b) := by rw [← hw0]; exact box_cell nb rfl
  have b3 : (w.alloc (.cells #[.int .i64 s.kd, .int .i64 s.a, .int .i64 s.b, .int .i64 s.c, .int .u64 s.v, .int .u64 s.x, .string s.t] 39)).cell? ⟨w.heap.size, 3, none⟩ = some (.int .i64 s.c) := by rw [← hw0]; exact box_cell nb rfl
  have b4 : (w.alloc (.cells #[.int .i64 s.kd, .int .i64 s.a, .int .i64 s.b, .int .i64 s.c, .int .u64 s.v, .int .u64 s.x, .string s.t] 39)).cell? ⟨w.heap.size, 4, none⟩ = some (.int .u64 s.v) := by rw [← hw0]; exact box_cell nb rfl
  have b5 : (w.alloc (.cells #[.int .i64 s.kd, .int .i64 s.a, .int .i64 s.b, .int .i64 s.c, .int .u64 s.v, .int .u64 s.x, .string s.t] 39)).cell? ⟨w.heap.size, 5, none⟩ = some (.int .u64 s.x) := by rw [← hw0]; exact box_cell nb rfl
  have b6 : (w.alloc (.cells #[.int .i64 s.kd, .int .i64 s.a, .int .i64 s.b, .int .i64 s.c, .int .u64 s.v, .int .u64 s.x, .string s.t] 39)).cell? ⟨w.heap.size, 6, none⟩ = some (.string s.t) := by rw [← hw0]; exact box_cell nb rfl
  have nK : ¬ K w.heap.size := fun e => by have := h.p.kl _ e; omega
  have H := hide2 h
  have H0 := hide2 h0
  have NB := hide2 nb
  have HB := hide2 hb0
  clear h h0 nb hb0
  have dk6 : decide (s.kd = 6) = true := by simp [k6]
  obtain ⟨r, hr⟩ : ∃ r, r = s.c.tmod 3 := ⟨_, rfl⟩
  obtain ⟨q, hq⟩ : ∃ q, q = (r + 3).tmod 3 := ⟨_, rfl⟩
  have hrb : -3 < r ∧ r < 3 := by
    have h1 := Int.tmod_lt_of_pos s.c (b := 3) (by omega)
    have h2 := Int.lt_tmod_of_pos s.c (b := 3) (by omega)
    omega
  have hqb : q = 0 ∨ q = 1 ∨ q = 2 := by
    have h1 : q = (r + 3) % 3 := by rw [hq]; exact Int.tmod_eq_emod_of_nonneg (by omega)
    omega
  have hr2 := hr.symm
  have hq2 := hq.symm
  have wr0 : IntKind.i64.wrap r = r := by rw [IntKind.wrap_i64]; omega
  have wr3 : IntKind.i64.wrap (r + 3) = r + 3 := by rw [IntKind.wrap_i64]; omega
  have wrq : IntKind.i64.wrap q = q := by rw [IntKind.wrap_i64]; omega
  clear hr hq
  obtain ⟨a1, e1, A', fr', st', hla, s1, s2, hp, hr⟩ := tw_words H0.out (q := q) hs.a hqb (Tch s.kd)
  have HP := hide2 hp
  have HRR := hide2 hr
  have HLA := hide2 hla
  clear hp hr hla
  go_enter Tryz.func11, Tryz.ntmps11
  go_wp2_with fail
  rw [k6] at hw0
  rw [← hw0]
  refine HP.out.mono ?_
  rintro e w1 ⟨rfl, m', u', hm', ht, hfr, ha⟩
  have hmid := HRR.out w1 (H0.out.mid ha)
  have HMID := hide2 hmid
  have nb1 : w1.heap[w.heap.size]? = some (.cells #[.int .i64 s.kd, .int .i64 s.a, .int .i64 s.b, .int .i64 s.c, .int .u64 s.v, .int .u64 s.x, .string s.t] 39 (0, 0)) := by
    obtain ⟨K1, _, _, hF⟩ := ha
    exact (hF.block _ (by omega) nK).trans NB.out
  have e1 : w1.cell? ⟨w.heap.size, 1, none⟩ = some (.int .i64 s.a) := box_cell nb1 rfl
  have HA := hide2 ha
  have HT := hide2 ht
  clear HP hmid ha ht nb1 b0 b1 b2 b3 b4 b5 b6
  go_wp2_with fail
  refine HMID.out.mono ?_
  rintro e w2 ⟨rfl, hraf⟩
  have RET := hide2 (H.out.done (tch := Tch s.kd) HB.out (H0.out.fin HA.out hraf hfr HLA.out hm' ⟨s1, s2⟩ hi) HT.out)
  clear HMID hraf HA HT HLA HRR
  go_wp2
  go_ret
  exact ⟨wret_bool (by simp), RET.out⟩
theorem Ch.falls (hok : A.ok) : ∀ {l : List Nat} {x : Int}, Ch A x l → l.Pairwise (fun a b => b < a)
  | [], _, _ => List.Pairwise.nil
  | n :: l, x, h => by
    obtain ⟨rfl, hn, hl⟩ := h
    refine List.Pairwise.cons (fun b hb => ?_) (hl.falls hok)
    have := hl.le hok b hb
    have := hok.nx n hn
    omega
theorem BoR.below {tch : Prop} (h : BoR w w1 K J sb d z rb m st i tch) (hb : Below w1.heap.size w1 w2) : BoR w w2 K J sb d z rb m st i tch := by
  obtain ⟨K', J', A', u', m', st', hB, ht, hk, hF⟩ := h
  exact ⟨K', J', A', u', m', st', hB.below hb, ht, hk, hF.trans (G := fun _ => False) (Fr.below hb) (fun j e => e.elim)⟩
/-- Chain by both. -/
theorem tw_Chain (h : Bo w K J sb d z rb A u m st i) {n : Int} (hn : i64ok n) : ∃ l : List Nat, l.length ≤ 10000 ∧
    (Calls Tryz.prog 14 #[.pointer (some ⟨sb, 0, none⟩), .int .i64 n] w fun e w' => ∃ v, e = .returned v ∧ Hr w' w.heap.size v l ∧ ∃ m', m' ≤ m + 10000 ∧ ∃ K', Re w' K' sb d z m' A u ∧ (∀ j, j < w.heap.size → (K' j ↔ K j)) ∧ Fr K w w' ∧ ∀ j, v.ownBlock = some j → ¬ K' j) ∧
    (∀ w1, Rf w1 J rb A ((z : Int) - (u : Int)) st → Calls Tryz.prog 16 #[.pointer (some ⟨rb, 0, none⟩), .int .i64 n] w1 fun e w' => ∃ v, e = .returned v ∧ Hr w' w1.heap.size v l ∧ Fr (fun _ => False) w1 w') ∧ (∀ y ∈ l, A.lv 1 y = true) ∧ l.Pairwise (fun a b => b < a) := by
  have hm0 := h.p.m0
  have hp := h.p.rp (M := m.toNat) (by omega)
  have hM : m.toNat < 100000000 := by have := h.mi; have := h.ii; omega
  have hi := h.ii
  have hok := h.p.ok
  rcases lvI_cases (A := A) 0 n with ⟨k, rfl, hk⟩ | ⟨h1, h2⟩
  · have hnb := hok.n1 0 k hk
    obtain ⟨k, rfl⟩ : ∃ q, k = q + 1 := ⟨k - 1, by omega⟩
    have hla := h.la 1
    have hhd := hok.hd (k + 1) hk
    obtain ⟨l, hl, hll⟩ := ch_ex hok (A.la 1 + 1) (A.va 0 (k + 1)) (by omega)
    refine ⟨l, by omega, (chain_any hp hk hl (by omega) (by omega)).mono fun e w' q => ?_, fun w1 hr => ?_, hl.live, hl.falls hok⟩
    · obtain ⟨v, rfl, hv, K', hr, hk', hF, hno⟩ := q
      obtain ⟨m', hm', hr⟩ := hr.re
      exact ⟨v, rfl, hv, m', by omega, K', hr, hk', hF, hno⟩
    · obtain ⟨vn, vv, vt, hr⟩ := hr
      exact rChain_in hr hk hl (by omega)
  · refine ⟨[], by simp, (Chain_out hp hn.1 hn.2 h2).mono fun e w' q => ?_, fun w1 hr => ?_, by simp, by simp⟩
    · exact ⟨_, q.1, ⟨rfl, .inl ⟨rfl, rfl⟩⟩, m, by omega, K, h.p.below q.2, fun _ _ => Iff.rfl, Fr.below q.2, fun j e => by cases e⟩
    · obtain ⟨vn, vv, vt, hr⟩ := hr
      exact (ChainR_out hr h1).mono fun e w' q => ⟨_, q.1, ⟨rfl, .inl ⟨rfl, rfl⟩⟩, by rw [q.2]; exact Fr.refl _ _⟩
set_option maxRecDepth 100000 in
set_option maxHeartbeats 8000000 in
theorem loads_18 (h : Bo w K J sb d z rb A u m st i) (hi : i < 6000) {s : Stp} (hs : s.ok) (k18 : s.kd = 18) :
    Calls Tryz.prog 11 #[.pointer (some ⟨sb, 0, none⟩), .pointer (some ⟨rb, 0, none⟩), .agg #[.int .i64 s.kd, .int .i64 s.a, .int .i64 s.b, .int .i64 s.c, .int .u64 s.v, .int .u64 s.x, .string s.t]] w fun e w' => e = .returned (.bool true) ∧ BoR w w' K J sb d z rb m st (i + 1) (Tch s.kd) := by
  obtain ⟨w0, hw0⟩ : ∃ q, q = w.alloc (.cells #[.int .i64 s.kd, .int .i64 s.a, .int .i64 s.b, .int .i64 s.c, .int .u64 s.v, .int .u64 s.x, .string s.t] 39) := ⟨_, rfl⟩
  have hb0 : Below w.heap.size w w0 := by rw [hw0]; exact (Below.refl _ _).alloc (Nat.le_refl _) _
  have nb : w0.heap[w.heap.size]? = some (.cells #[.int .i64 s.kd, .int .i64 s.a, .int .i64 s.b, .int .i64 s.c, .int .u64 s.v, .int .u64 s.x, .string s.t] 39 (0, 0)) := by rw [hw0]; exact heap_alloc_new w _
  have hs0 : w0.heap.size = w.heap.size + 1 := by rw [hw0]; simp
  have h0 := h.below hb0
  have b0 : (w.alloc (.cells #[.int .i64 s.kd, .int .i64 s.a, .int .i64 s.b, .int .i64 s.c, .int .u64 s.v, .int .u64 s.x, .string s.t] 39)).cell? ⟨w.heap.size, 0, none⟩ = some (.int .i64 s.kd) := by rw [← hw0]; exact box_cell nb rfl
  have b1 : (w.alloc (.cells #[.int .i64 s.kd, .int .i64 s.a, .int .i64 s.b, .int .i64 s.c, .int .u64 s.v, .int .u64 s.x, .string s.t] 39)).cell? ⟨w.heap.size, 1, none⟩ = some (.int .i64 s.a) := by rw [← hw0]; exact box_cell nb rfl
  have b2 : (w.alloc (.cells #[.int .i64 s.kd, .int .i64 s.a, .int .i64 s.b, .int .i64 s.c, .int .u64 s.v, .int .u64 s.x, .string s.t] 39)).cell? ⟨w.heap.size, 2, none⟩ = some (.int .i64 s.b) := by rw [← hw0]; exact box_cell nb rfl
  have b3 : (w.alloc (.cells #[.int .i64 s.kd, .int .i64 s.a, .int .i64 s.b, .int .i64 s.c, .int .u64 s.v, .int .u64 s.x, .string s.t] 39)).cell? ⟨w.heap.size, 3, none⟩ = some (.int .i64 s.c) := by rw [← hw0]; exact box_cell nb rfl
  have b4 : (w.alloc (.cells #[.int .i64 s.kd, .int .i64 s.a, .int .i64 s.b, .int .i64 s.c, .int .u64 s.v, .int .u64 s.x, .string s.t] 39)).cell? ⟨w.heap.size, 4, none⟩ = some (.int .u64 s.v) := by rw [← hw0]; exact box_cell nb rfl
  have b5 : (w.alloc (.cells #[.int .i64 s.kd, .int .i64 s.a, .int .i64 s.b, .int .i64 s.c, .int .u64 s.v, .int .u64 s.x, .string s.t] 39)).cell? ⟨w.heap.size, 5, none⟩ = some (.int .u64 s.x) := by rw [← hw0]; exact box_cell nb rfl
  have b6 : (w.alloc (.cells #[.int .i64 s.kd, .int .i64 s.a, .int .i64 s.b, .int .i64 s.c, .int .u64 s.v, .int .u64 s.x, .string s.t] 39)).cell? ⟨w.heap.size, 6, none⟩ = some (.string s.t) := by rw [← hw0]; exact box_cell nb rfl
  have nK : ¬ K w.heap.size := fun e => by have := h.p.kl _ e; omega
  have H := hide2 h
  have H0 := hide2 h0
  have NB := hide2 nb
  have HB := hide2 hb0
  clear h h0 nb hb0
  have dk18 : decide (s.kd = 18) = true := by simp [k18]
  obtain ⟨l, hll, hp, hr, _, _⟩ := tw_Chain H0.out hs.a
  have HP := hide2 hp
  have HRR := hide2 hr
  have hnt : ¬ Tch s.kd := by unfold Tch; omega
  have HNT := hide2 hnt
  clear hp hr hnt
  go_enter Tryz.func11, Tryz.ntmps11
  go_wp2_with fail
  rw [k18] at hw0
  rw [← hw0]
  refine HP.out.mono ?_
  rintro e w1 ⟨v1, rfl, hv1, m', hm', K', hR, hk, hF, hno⟩
  have ha : Afe w0 w1 K sb d z m' A u := ⟨K', hR, hk, hF⟩
  have hmid := H0.out.mid ha
  have HMC := hide2 (HRR.out w1 hmid)
  have HMID := hide2 hmid
  have nb1 : w1.heap[w.heap.size]? = some (.cells #[.int .i64 s.kd, .int .i64 s.a, .int .i64 s.b, .int .i64 s.c, .int .u64 s.v, .int .u64 s.x, .string s.t] 39 (0, 0)) := (hF.block _ (by omega) nK).trans NB.out
  have e1 : w1.cell? ⟨w.heap.size, 1, none⟩ = some (.int .i64 s.a) := box_cell nb1 rfl
  have HA := hide2 ha
  have HV1 := hide2 hv1
  clear HP hmid ha nb1 b0 b1 b2 b3 b4 b5 b6 hv1 hR hk hF hno
  go_wp2_with fail
  refine HMC.out.mono ?_
  rintro e w2 ⟨v2, rfl, hv2, hF2⟩
  have hraf : Raf w1 w2 J rb A ((z : Int) - (u : Int)) st := ⟨J, HMID.out.keep hF2 (fun _ _ e => e), fun _ _ => Iff.rfl, hF2.mono (fun _ _ e => e.elim)⟩
  have RET := hide2 (H.out.done (tch := Tch s.kd) HB.out (H0.out.fin HA.out hraf rfl (fun c => by omega) hm' ⟨by omega, by omega⟩ hi) (fun e => absurd e HNT.out))
  obtain ⟨ao1, cp1, rfl, q1⟩ := (show Hr w2 w0.heap.size v1 l from hrow_fr HV1.out hF2 (fun _ _ e => e)).seq
  obtain ⟨ao2, cp2, rfl, q2⟩ := hv2.seq
  have HI := hide2 (ints_same q1 q2)
  clear HMC hraf HA HRR hv2 hF2 q1 q2 HMID HV1
  go_wp2_with fail
  refine HI.out.mono ?_
  rintro e w3 ⟨rfl, q, rfl⟩
  clear HI
  go_wp2
  go_ret
  exact ⟨rfl, RET.out.below (below_drewN _ _ _)⟩
set_option maxRecDepth 100000 in
set_option maxHeartbeats 8000000 in
theorem loads_any (h : Bo w K J sb d z rb A u m st i) (hi : i < 6000) {s : Stp} (hs : s.ok)  :
    Calls Tryz.prog 11 #[.pointer (some ⟨sb, 0, none⟩), .pointer (some ⟨rb, 0, none⟩), .agg #[.int .i64 s.kd, .int .i64 s.a, .int .i64 s.b, .int .i64 s.c, .int .u64 s.v, .int .u64 s.x, .string s.t]] w fun e w' => e = .returned (.bool true) ∧ BoR w w' K J sb d z rb m st (i + 1) (Tch s.kd) := by
  by_cases k6 : s.kd = 6
  · exact loads_6 h hi hs k6
  by_cases k11 : s.kd = 11
  · exact loads_11 h hi hs k11
  by_cases k14 : s.kd = 14
  · exact loads_14 h hi hs k14
  by_cases k8 : s.kd = 8
  · exact loads_8 h hi hs k8
  by_cases k9 : s.kd = 9
  · exact loads_9 h hi hs k9
  by_cases k12 : s.kd = 12
  · exact loads_12 h hi hs k12
  by_cases k13 : s.kd = 13
  · exact loads_13 h hi hs k13
  by_cases k17 : s.kd = 17
  · exact loads_17 h hi hs k17
  by_cases k7 : s.kd = 7
  · exact loads_7 h hi hs k7
  by_cases k18 : s.kd = 18
  · exact loads_18 h hi hs k18
  exact loads_else h hi hs k6 k11 k14 k8 k9 k12 k13 k17 k7 k18
end
end
end Go.Proofs.YtbhpkidlhhkbmaaGreatDoor
