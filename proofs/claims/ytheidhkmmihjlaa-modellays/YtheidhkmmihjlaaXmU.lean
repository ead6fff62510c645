/-
  XmU: What ModelLays asks, without memory, and the state in which its loop stands.
-/
import Derived.Test.YtheidhkmmihjlaaXmT
set_option linter.unusedVariables false
set_option linter.unusedSimpArgs false
namespace Go.Proofs.Ytheidhkmmihjlaa
open Go.RowKit
open ML (Ro RS Srt nless fstOf od nl_irr nl_tr nl_tot)
attribute [local go_sem] Oper.semAt_some

theorem wrt_room {S : Ms} {x : Wr} {ps : List Wr} (h : S.ws = some ps) (hl : ps.length < 64) : wrt S x = (⟨S.L, S.t, some (putW ps x)⟩, {}) := by
  unfold wrt
  rw [h]
  simp only [Option.getD_some]
  rw [if_neg (by omega)]
/-- Which kind of call lays a write. -/
def knd (g f : Bool) : Int := if g then 6 else if f then 5 else 4
theorem stp_lay {S : Ms} {ps : List Wr} (h : S.ws = some ps) (hl : ps.length < 64) {x : Wr} (hk : isK x.key = true) (hv : isV x.val = true) (hg : x.gone = true → (look S x.key).isSome = true) :
    stp S ⟨knd x.gone (look S x.key).isSome, 0, x.key, z0, x.val, 0, 0⟩ = (⟨S.L, S.t, some (putW ps ⟨x.key, if x.gone then .empty else x.val, x.gone⟩)⟩, {}) := by
  have h2 := open_some (S := S) (by rw [h]; rfl)
  cases hx : x.gone with
  | true =>
    have hf := hg hx
    show stp S ⟨6, 0, x.key, z0, x.val, 0, 0⟩ = _
    unfold stp
    rw [if_neg (by simp)]
    show (if fst0 (wrg S ⟨6, 0, x.key, z0, x.val, 0, 0⟩ 6) = 0 then wrt S ⟨x.key, .empty, true⟩ else _) = _
    rw [if_pos (by simp [wrg, fst0, h2, hk, hf]), wrt_room h hl]
    rfl
  | false =>
    cases hf : (look S x.key).isSome with
    | true =>
      show stp S ⟨5, 0, x.key, z0, x.val, 0, 0⟩ = _
      unfold stp
      rw [if_neg (by simp)]
      show (if fst0 (wrg S ⟨5, 0, x.key, z0, x.val, 0, 0⟩ 5) = 0 then wrt S ⟨x.key, x.val, false⟩ else _) = _
      rw [if_pos (by simp [wrg, fst0, h2, hk, hv, hf]), wrt_room h hl]
      simp
    | false =>
      show stp S ⟨4, 0, x.key, z0, x.val, 0, 0⟩ = _
      unfold stp
      rw [if_neg (by simp)]
      show (if fst0 (wrg S ⟨4, 0, x.key, z0, x.val, 0, 0⟩ 4) = 0 then wrt S ⟨x.key, x.val, false⟩ else _) = _
      rw [if_pos (by simp [wrg, fst0, h2, hk, hv, hf]), wrt_room h hl]
      simp
theorem putW_at {ps : List Wr} {n : Nat} {x : Wr} (hn : n ≤ ps.length) (h1 : ∀ z ∈ ps.take n, nless z.key x.key = true) (h2 : ∀ z, ps[n]? = some z → nless z.key x.key = false) (h3 : ∀ z ∈ ps, z.key ≠ x.key) : putW ps x = ps.take n ++ x :: ps.drop n := by
  unfold putW
  rw [Ck.put_at hn h1 (fun z hz q => by rw [h2 z hz] at q; cases q)]
  congr 2
  cases hz : ps[n]? with
  | none =>
    have : ps.length ≤ n := by
      by_cases q : n < ps.length
      · rw [List.getElem?_eq_getElem q] at hz; cases hz
      · omega
    rw [List.drop_eq_nil_of_le this]
  | some z =>
    simp only []
    rw [if_neg (h3 z (List.mem_of_getElem? hz))]
theorem putW_len1 {ps : List Wr} {x : Wr} : (putW ps x).length ≤ ps.length + 1 := put_len ps x
/-- Is a key among writes. -/
def has (ps : List Wr) (k : ByteArray) : Bool := ps.any fun z => decide (z.key = k)
theorem has_false {ps : List Wr} {k : ByteArray} : has ps k = false ↔ ∀ z ∈ ps, z.key ≠ k := by
  unfold has
  rw [Bool.eq_false_iff, Ne, List.any_eq_true]
  simp
theorem has_snoc {ps : List Wr} {k : ByteArray} {i : Nat} {x : Wr} (h : ps[i]? = some x) : has (ps.take (i + 1)) k = (has (ps.take i) k || decide (x.key = k)) := by
  unfold has
  rw [ML.take_snoc h, List.any_append]
  simp
theorem mo_addb {B : Nat} {K : List Nat} {w w' : World} {X : Nat} {S : Ms} {g : Nat} (h : Mo B K w X S) (hb : Below w.heap.size w w') (h1 : w.heap.size ≤ g) (h2 : g < w'.heap.size) : Mo B (g :: K) w' X S := by
  have h' := h.below hb
  obtain ⟨b, c, hP, q1, q2, q3, q4, q5⟩ := h
  refine ⟨b, c, hP.below hb, q1, q2, q3, h'.base, fun j hj => ?_⟩
  rcases List.mem_cons.1 hj with rfl | hj
  · exact ⟨h2, fun e => by have := hP.ex_lt e; omega⟩
  · exact ⟨Nat.lt_of_lt_of_le (q5 j hj).1 hb.size, (q5 j hj).2⟩
theorem mo_addK {B : Nat} {K K' : List Nat} {w w' : World} {X : Nat} {S : Ms} (h : Mo B K w X S) (hb : Below w.heap.size w w') (hk : ∀ g ∈ K', w.heap.size ≤ g ∧ g < w'.heap.size) : Mo B (K' ++ K) w' X S := by
  have h' := h.below hb
  obtain ⟨b, c, hP, q1, q2, q3, q4, q5⟩ := h
  refine ⟨b, c, hP.below hb, q1, q2, q3, h'.base, fun j hj => ?_⟩
  rcases List.mem_append.1 hj with hj | hj
  · exact ⟨(hk j hj).2, fun e => by have := hP.ex_lt e; have := (hk j hj).1; omega⟩
  · exact ⟨Nat.lt_of_lt_of_le (q5 j hj).1 hb.size, (q5 j hj).2⟩
theorem mo_chg {B : Nat} {K : List Nat} {w w' : World} {X : Nat} {S : Ms} {s : Nat → Prop} (h : Mo B K w X S) (hc : Chg s w w') (hk : ∀ j, s j → j ∈ K) : Mo B K w' X S := by
  obtain ⟨b, c, hP, q1, q2, q3, q4, q5⟩ := h
  exact ⟨b, c, hP.chg hc (fun j e q => (q5 j (hk j q)).2 e), q1, q2, q3, Nat.le_trans q4 hc.size, fun j hj => ⟨Nat.lt_of_lt_of_le (q5 j hj).1 hc.size, (q5 j hj).2⟩⟩
abbrev cmObj (t : Int) (ao : Option Addr) (n cap : Nat) : Obj := .cells #[.int .i64 t, .slice ao n cap] 36 (0, 0)
/-- While the law lays one write behind the other: m has written qs, in the commit stands ps; x is untouched. -/
structure Q5 (W : World) (B X Y bY C : Nat) (L : List Ro) (t : Int) (w : World) (qs ps : List Wr) (ao : Option Addr) (cap : Nat) : Prop where
  mo : Mo B (C :: Y :: bY :: Kr ao) w X ⟨L, t, some qs⟩
  cb : w.heap[C]? = some (cmObj (t + 1) ao ps.length cap)
  ws : WS w ao ps.length cap ps
  nil : ao = none → cap = 0
  emp : ps = [] → ao = none
  y : Pm w Y bY none ⟨L, t, none⟩
  dy : ∀ j ∈ Kr ao, j ≠ Y ∧ j ≠ bY ∧ j ≠ C
  low : Below W.heap.size W w
  base : W.heap.size ≤ B
  cB : B ≤ C
  cY : C ≠ Y ∧ C ≠ bY
abbrev wrO (x : Wr) : Obj := .cells #[.string x.key, .string x.val, .bool x.gone] 61 (0, 0)
section
variable {W w w' : World} {B X Y bY C : Nat} {L : List Ro} {t : Int} {qs qs' ps : List Wr} {ao : Option Addr} {cap : Nat}
theorem Q5.step (h : Q5 W B X Y bY C L t w qs ps ao cap) (hm : Mo B (C :: Y :: bY :: Kr ao) w' X ⟨L, t, some qs'⟩) (hb : Below B w w') (hk : Kp (C :: Y :: bY :: Kr ao) w w') : Q5 W B X Y bY C L t w' qs' ps ao cap :=
  ⟨hm, (hk C (by simp)).trans h.cb, ws_keep h.ws (fun j hj => hk j (by simp [hj])) hb.size, h.nil, h.emp, h.y.keep (hk Y (by simp)) (hk bY (by simp)) nofun, h.dy, h.low.trans (hb.mono h.base), h.base, h.cB, h.cY⟩
theorem Q5.below (h : Q5 W B X Y bY C L t w qs ps ao cap) (hb : Below w.heap.size w w') : Q5 W B X Y bY C L t w' qs ps ao cap :=
  h.step (h.mo.below hb) (hb.mono h.mo.base) (h.mo.kp hb)
/-- .. and the write at hand lies in a box. -/
structure Q6 (W : World) (B X Y bY C D : Nat) (L : List Ro) (t : Int) (w : World) (qs ps : List Wr) (ao : Option Addr) (cap : Nat) (x : Wr) : Prop where
  q : Q5 W B X Y bY C L t w qs ps ao cap
  mo : Mo B (D :: C :: Y :: bY :: Kr ao) w X ⟨L, t, some qs⟩
  d : w.heap[D]? = some (wrO x)
  dn : ∀ j ∈ (C :: Y :: bY :: Kr ao), j ≠ D
  dB : B ≤ D
variable {D : Nat} {x : Wr}
theorem Q5.box (h : Q5 W B X Y bY C L t w qs ps ao cap) (x : Wr) : Q6 W B X Y bY C w.heap.size L t (w.alloc (wrO x)) qs ps ao cap x := by
  have hlt : ∀ j ∈ (C :: Y :: bY :: Kr ao), j < w.heap.size := by obtain ⟨b, c, hP, q1, q2, q3, q4, q5⟩ := h.mo; exact fun j hj => (q5 j hj).1
  exact ⟨h.below (ML.below1 _ _), h.mo.add _, heap_alloc_new _ _, fun j hj => by have := hlt j hj; omega, h.mo.base⟩
theorem Q6.step (h : Q6 W B X Y bY C D L t w qs ps ao cap x) (hm : Mo B (D :: C :: Y :: bY :: Kr ao) w' X ⟨L, t, some qs'⟩) (hb : Below B w w') (hk : Kp (D :: C :: Y :: bY :: Kr ao) w w') : Q6 W B X Y bY C D L t w' qs' ps ao cap x :=
  ⟨h.q.step (hm.sub fun j hj => List.mem_cons_of_mem _ hj) hb (fun j hj => hk j (List.mem_cons_of_mem _ hj)), hm, (hk D (by simp)).trans h.d, h.dn, h.dB⟩
theorem Q6.below (h : Q6 W B X Y bY C D L t w qs ps ao cap x) (hb : Below w.heap.size w w') : Q6 W B X Y bY C D L t w' qs ps ao cap x :=
  h.step (h.mo.below hb) (hb.mono h.mo.base) (h.mo.kp hb)
theorem Q6.empty (h : Q6 W B X Y bY C D L t w qs ps ao cap x) : Q6 W B X Y bY C D L t (w.setCell ⟨D, 1, none⟩ (.string ⟨#[]⟩)) qs ps ao cap ⟨x.key, ⟨#[]⟩, x.gone⟩ := by
  have hc := cell_chg w D 1 (.string ⟨#[]⟩)
  have hm := mo_chg h.mo hc (fun j e => by rw [e]; simp)
  have hlo : Below B w (w.setCell ⟨D, 1, none⟩ (.string ⟨#[]⟩)) := (Below.refl B w).setCell (p := ⟨D, 1, none⟩) h.dB _
  refine ⟨h.q.step (hm.sub fun j hj => List.mem_cons_of_mem _ hj) hlo (fun j hj => set_else (h.dn j hj)), hm, ?_, h.dn, h.dB⟩
  exact (Go.Joins.block_setCell h.d _).trans rfl
theorem Q6.same {y : Wr} (h : Q6 W B X Y bY C D L t w qs ps ao cap x) (e : wrO x = wrO y) : Q6 W B X Y bY C D L t w qs ps ao cap y := ⟨h.q, h.mo, h.d.trans (by rw [e]), h.dn, h.dB⟩
/-- A write has been put in its place. -/
theorem Q6.put (h : Q6 W B X Y bY C D L t w qs ps ao cap x) {w3 : World} {v : Value} (hb : Below w.heap.size w w3) (hv : Wo w3 w.heap.size v qs) (hne : 0 < qs.length) :
    ∃ ao' cap', v = .slice ao' qs.length cap' ∧ Q5 W B X Y bY C L t (w3.setCell ⟨C, 1, none⟩ v) qs qs ao' cap' := by
  obtain ⟨ao', cap', rfl, hws⟩ := hv.seq
  have hg : ∃ g, ao' = some ⟨g, 0, none⟩ ∧ w.heap.size ≤ g ∧ g < w3.heap.size := by
    rcases hv.2 with ⟨e, h0⟩ | ⟨g, cp, cur, e, hB, hh, _⟩
    · omega
    · injection e with e1 _ _
      exact ⟨g, e1, hB, (Array.getElem?_eq_some_iff.1 hh).1⟩
  obtain ⟨g, rfl, hg1, hg2⟩ := hg
  have hlt : ∀ j ∈ (D :: C :: Y :: bY :: Kr ao), j < w.heap.size := by obtain ⟨b, c, hP, q1, q2, q3, q4, q5⟩ := h.mo; exact fun j hj => (q5 j hj).1
  have hC := hlt C (by simp)
  have hY := hlt Y (by simp)
  have hbY := hlt bY (by simp)
  have hc := cell_chg w3 C 1 (.slice (some ⟨g, 0, none⟩) qs.length cap')
  have hm3 := mo_addb h.mo hb hg1 hg2
  have hm4 := mo_chg hm3 hc (fun j e => by rw [e]; simp)
  have hc3 := (hb.block C hC).trans h.q.cb
  refine ⟨_, _, rfl, hm4.sub (fun j hj => ?_), (Go.Joins.block_setCell hc3 _).trans rfl, ws_chg hws hc (fun j hj q => ?_), nofun, (fun e => by rw [e] at hne; exact absurd hne (Nat.lt_irrefl 0)), h.q.y.keep ?_ ?_ nofun, fun j hj => ?_, ?_, h.q.base, h.q.cB, h.q.cY⟩
  · simp only [Kr, List.mem_cons, List.not_mem_nil, or_false] at hj ⊢
    rcases hj with e | e | e | e <;> simp [e]
  · simp [Kr] at hj; omega
  · exact (set_else fun e => h.q.cY.1 e.symm).trans (hb.block Y hY)
  · exact (set_else fun e => h.q.cY.2 e.symm).trans (hb.block bY hbY)
  · simp [Kr] at hj; omega
  · exact (h.q.low.trans (hb.mono h.q.low.size)).setCell (p := ⟨C, 1, none⟩) (Nat.le_trans h.q.base h.q.cB) _
/-- Parts of a slice of writes. -/
theorem ws_take (h : WS w ao ps.length cap ps) {m : Nat} (hm : m ≤ ps.length) : WS w ao m cap (ps.take m) := by
  refine ⟨by rw [List.length_take]; omega, Nat.le_trans hm h.2.1, h.2.2.1, fun hl => ?_⟩
  obtain ⟨g, off, e, hlt, hc⟩ := h.2.2.2 (by omega)
  exact ⟨g, off, e, hlt, fun i r hi => hc i r (by
    have h1 := (List.getElem?_eq_some_iff.1 hi).1
    rw [List.length_take] at h1
    rwa [List.getElem?_take_of_lt (by omega)] at hi)⟩
theorem wrc_drop : ∀ (l : List Wr) (m : Nat), wrc (l.drop m) = (wrc l).drop (m * 3)
  | [], m => by simp [wrc]
  | a :: l, 0 => by simp
  | a :: l, m + 1 => by
    rw [List.drop_succ_cons, wrc_drop l m]
    have e : wrc (a :: l) = a.cl ++ wrc l := rfl
    rw [e, show (m + 1) * 3 = 3 + m * 3 by omega, ← List.drop_drop]
    rfl
theorem svw_from (h : WS w ao ps.length cap ps) (hn : ao = none → cap = 0) {m : Nat} (hm : m ≤ ps.length) : Svw w (.slice (if cap = m then ao else ao.map (·.add (m * 3))) (ps.length - m) (cap - m)) (ps.drop m) := by
  have hlc := h.2.1
  cases ao with
  | none =>
    have h0 := hn rfl
    have h1 : ps.length = 0 := by omega
    have h2 : m = 0 := by omega
    subst h2
    rw [if_pos h0, h0, h1]
    exact .inl ⟨rfl, by rw [List.drop_zero]; exact List.eq_nil_of_length_eq_zero h1⟩
  | some ad =>
    by_cases hml : m < ps.length
    · rw [if_neg (by omega)]
      refine .inr ⟨ad.add (m * 3), cap - m, by rw [List.length_drop]; rfl, fun j u hu => ?_⟩
      rw [wrc_drop, List.getElem?_drop] at hu
      obtain ⟨g, off, e, hg, hc⟩ := ws_cells h (by omega)
      cases e
      rw [addr_plus, addr_plus, Nat.add_assoc]
      exact hc _ u hu
    · have h2 : ps.drop m = [] := List.drop_eq_nil_of_le (by omega)
      have h3 : ps.length - m = 0 := by omega
      rw [h2, h3]
      by_cases hcm : cap = m
      · rw [if_pos hcm]; exact .inr ⟨ad, _, rfl, fun j u hu => by simp [wrc] at hu⟩
      · rw [if_neg hcm]; exact .inr ⟨_, _, rfl, fun j u hu => by simp [wrc] at hu⟩
end
end Go.Proofs.Ytheidhkmmihjlaa
