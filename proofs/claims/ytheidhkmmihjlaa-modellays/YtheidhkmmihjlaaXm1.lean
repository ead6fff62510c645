/-
  Xm1: The program's model in memory; its small functions; what may be wrong with a call, one function each.
-/
import Derived.Test.YtheidhkmmihjlaaXm0
import Derived.Test.YtheidhkmmihjlaaE2
import Derived.Test.YtheidhkmmihjlaaYCp8
import Derived.Sort.KeysCollected
set_option linter.unusedVariables false
set_option linter.unusedSimpArgs false
namespace Go.Proofs.Ytheidhkmmihjlaa
open Go.RowKit Go.Shelf Go.Maps
open ML (Ro RS Srt nless fstOf Fst strLit strLit_inj setL setL_same setL_other delL delL_same delL_other od nl_irr nl_tr nl_tot Mg Rdg RVs strKeyed str_key turned_below zeroRo)
attribute [local go_sem] Oper.semAt_some

theorem xhide {p : Prop} (h : p) : Hid p := h
abbrev ptr (X : Nat) : Value := .pointer (some ⟨X, 0, none⟩)
abbrev Wr.w (x : Wr) : Value := .agg #[.string x.key, .string x.val, .bool x.gone]
def Fw (ws : List Wr) (g : Lit → Option Value) : Prop := ∀ l v, g l = some v ↔ ∃ x ∈ ws, l = strLit x.key ∧ v = x.w
theorem Fw.nil : Fw [] (fun _ => none) := fun l v => ⟨(nomatch ·), fun ⟨r, hr, _⟩ => by cases hr⟩
theorem Fw.put {ws : List Wr} {g : Lit → Option Value} (hs : SrtW ws) (h : Fw ws g) (x : Wr) : Fw (putW ws x) (setL g (strLit x.key) x.w) := by
  intro l v
  by_cases e : l = strLit x.key
  · rw [e, setL_same]
    constructor
    · intro q; exact ⟨x, (putW_mem hs).2 (.inl rfl), rfl, (Option.some.inj q).symm⟩
    · rintro ⟨r, hr, e1, e2⟩
      rcases (putW_mem hs).1 hr with q | q
      · rw [e2, q]
      · exact absurd (strLit_inj e1).symm q.2
  · rw [setL_other e, h]
    constructor
    · rintro ⟨r, hr, q1, q2⟩; exact ⟨r, (putW_mem hs).2 (.inr ⟨hr, fun z => e (by rw [q1, z])⟩), q1, q2⟩
    · rintro ⟨r, hr, q1, q2⟩
      rcases (putW_mem hs).1 hr with q | q
      · rw [q] at q1; exact absurd q1 e
      · exact ⟨r, q.1, q1, q2⟩
theorem Fw.at {ws : List Wr} {g : Lit → Option Value} (hs : SrtW ws) (h : Fw ws g) (k : ByteArray) : g (strLit k) = (wOf ws k).map Wr.w := by
  cases hq : wOf ws k with
  | some x =>
    obtain ⟨h1, h2⟩ := (wOf_some hs).1 hq
    exact (h _ _).2 ⟨x, h1, by rw [h2], rfl⟩
  | none =>
    cases hg : g (strLit k) with
    | none => rfl
    | some v =>
      obtain ⟨x, hx, e1, e2⟩ := (h _ _).1 hg
      exact absurd (strLit_inj e1).symm (wOf_none.1 hq x hx)

/-! ### How many stand in a map -/
theorem foldr_len {H : Type} : ∀ l : List (Lit × DataW H), (l.foldr DataW.insert []).length = l.length
  | [] => rfl
  | a :: l => by
    have h2 : ∀ (x : Lit × DataW H) (m : List (Lit × DataW H)), (DataW.insert x m).length = m.length + 1 := fun x m => by
      induction m with
      | nil => rfl
      | cons b m ih =>
        unfold DataW.insert
        split <;> simp_all
    rw [List.foldr_cons, h2, foldr_len l]; rfl
theorem own_tight {w : World} {b n : Nat} {D : DataW Value} (h : w.ownsMap Try.prog 9 RVs b n D) : w.ownsMap Try.prog 9 RVs b (Maps.size D) D := by
  obtain ⟨es, clock, hb, F, hs, rfl⟩ := h
  refine ⟨es, clock, hb, F, ?_, rfl⟩
  rw [Maps.size_eq, foldr_len]
  simp
theorem size_keys {w : World} {b n : Nat} {D : DataW Value} {f : Lit → Option Value} (h : w.ownsMap Try.prog 9 RVs b n D) (hr : Rdg D f) {ks : List ByteArray} (hn : ks.Nodup) (hk : ∀ k, (f (strLit k)).isSome = true ↔ k ∈ ks) : Maps.size D = ks.length := by
  obtain ⟨es, hD, hpw, _⟩ := h.entries strKeyed
  obtain ⟨es', hD', hko⟩ := h.keysOf
  obtain rfl : es = es' := by rw [hD] at hD'; simpa using hD'
  subst hD
  have hp := perm_strKeys (es := es) (ss := ks.map fun s => s.data.toList) hpw (fun p hp => by obtain ⟨v, hv⟩ := hko p hp; obtain ⟨x, _, hx, _⟩ := Maps.keyOf_str Try.underlying9 hv; exact ⟨x, hx⟩)
    (List.pairwise_map.2 (hn.imp fun {a b} q e => q (ByteArray.ext (Array.toList_inj.1 e)))) (fun x => by
      have hx : (⟨⟨x⟩⟩ : ByteArray).data.toList = x := rfl
      rw [List.mem_map]
      constructor
      · rintro ⟨s, hs, rfl⟩
        have := (hk s).2 hs
        cases hf : f (strLit s) with
        | none => rw [hf] at this; cases this
        | some v => exact (hr.yes _ _ hf).1
      · intro hh
        refine ⟨⟨⟨x⟩⟩, (hk _).1 ?_, rfl⟩
        cases hf : f (strLit ⟨⟨x⟩⟩) with
        | some v => rfl
        | none =>
          have := hr.no _ hf
          unfold strLit at this
          rw [hx, hh] at this; cases this)
  have := hp.length_eq
  rw [List.length_map] at this
  rw [this, Maps.size_eq]
  show es.length = (es.map _).length
  rw [List.length_map]
theorem srt_nd {L : List Ro} (h : Srt L) : (L.map Ro.k).Nodup := List.pairwise_map.2 (h.imp fun {a b} q e => by rw [e, nl_irr] at q; cases q)
theorem srtW_nd {L : List Wr} (h : SrtW L) : (L.map Wr.key).Nodup := List.pairwise_map.2 (h.imp fun {a b} q e => by rw [e, nl_irr] at q; cases q)
theorem fm_keys {L : List Ro} {f : Lit → Option Value} (h : Fm L f) (k : ByteArray) : (f (strLit k)).isSome = true ↔ k ∈ L.map Ro.k := by
  rw [List.mem_map]
  constructor
  · intro q
    obtain ⟨v, hv⟩ := Option.isSome_iff_exists.1 q
    obtain ⟨r, hr, e, _⟩ := (h _ _).1 hv
    exact ⟨r, hr, (strLit_inj e).symm⟩
  · rintro ⟨r, hr, rfl⟩
    rw [(h _ _).2 ⟨r, hr, rfl, rfl⟩]; rfl
theorem fw_keys {L : List Wr} {f : Lit → Option Value} (h : Fw L f) (k : ByteArray) : (f (strLit k)).isSome = true ↔ k ∈ L.map Wr.key := by
  rw [List.mem_map]
  constructor
  · intro q
    obtain ⟨v, hv⟩ := Option.isSome_iff_exists.1 q
    obtain ⟨r, hr, e, _⟩ := (h _ _).1 hv
    exact ⟨r, hr, (strLit_inj e).symm⟩
  · rintro ⟨r, hr, rfl⟩
    rw [(h _ _).2 ⟨r, hr, rfl, rfl⟩]; rfl
theorem Mg.tight {w : World} {b q : Nat} {L : List Ro} {f : Lit → Option Value} (h : Mg 9 w b f q) (hf : Fm L f) (hs : Srt L) : Mg 9 w b f L.length := by
  obtain ⟨D, ho, hr⟩ := h
  have e := size_keys ho hr (srt_nd hs) (fm_keys hf)
  rw [List.length_map] at e
  exact ⟨D, by rw [← e]; exact own_tight ho, hr⟩
theorem Mg.tightW {w : World} {b q : Nat} {L : List Wr} {f : Lit → Option Value} (h : Mg 9 w b f q) (hf : Fw L f) (hs : SrtW L) : Mg 9 w b f L.length := by
  obtain ⟨D, ho, hr⟩ := h
  have e := size_keys ho hr (srtW_nd hs) (fw_keys hf)
  rw [List.length_map] at e
  exact ⟨D, by rw [← e]; exact own_tight ho, hr⟩
theorem Mg.lenW {w : World} {b q : Nat} {L : List Wr} {f : Lit → Option Value} (h : Mg 9 w b f q) (hf : Fw L f) (hs : SrtW L) (ty : TypeId) :
    (Builtin.len_ #[64] ty #[.map (some b)]).run Try.prog w = .ok (.int .i64 L.length) w := by
  obtain ⟨D, ho, hr⟩ := h
  have e := size_keys ho hr (srtW_nd hs) (fw_keys hf)
  rw [List.length_map] at e
  rw [← e]
  exact ho.len Try.underlying64 ty

/-! ### What has changed -/
def Chg (s : Nat → Prop) (w w' : World) : Prop := Below 0 w w' ∧ ∀ j, j < w.heap.size → ¬ s j → w'.heap[j]? = w.heap[j]?
section
variable {s s' : Nat → Prop} {w w1 w2 : World}
theorem Chg.refl : Chg s w w := ⟨Below.refl _ _, fun _ _ _ => rfl⟩
theorem Chg.below (h : Below w.heap.size w w1) : Chg s w w1 := ⟨h.mono (Nat.zero_le _), fun j hj _ => h.block j hj⟩
theorem Chg.size (h : Chg s w w1) : w.heap.size ≤ w1.heap.size := h.1.size
theorem Chg.trans (h : Chg s w w1) (h2 : Chg s' w1 w2) (hs : ∀ j, j < w.heap.size → s' j → s j) : Chg s w w2 :=
  ⟨h.1.trans (h2.1.mono (Nat.zero_le _)), fun j hj n => (h2.2 j (Nat.lt_of_lt_of_le hj h.size) (fun q => n (hs j hj q))).trans (h.2 j hj n)⟩
theorem Chg.mono (h : Chg s w w1) (hs : ∀ j, s j → s' j) : Chg s' w w1 := ⟨h.1, fun j hj n => h.2 j hj fun q => n (hs j q)⟩
theorem Chg.low (h : Chg s w w1) {B : Nat} (hB : B ≤ w.heap.size) (hs : ∀ j, s j → B ≤ j) : Below B w w1 :=
  ⟨h.1.os, h.1.tape, h.1.output, h.1.size, fun j hj => h.2 j (by omega) fun q => by have := hs j q; omega⟩
end
def Ex (X b : Nat) (c : Option Nat) (j : Nat) : Prop := j = X ∨ j = b ∨ c = some j

/-! ### The model in memory -/
def Wm (w : World) (c : Option Nat) : Option (List Wr) → Prop
  | none => c = none
  | some ws => ∃ c0 g, c = some c0 ∧ Mg 9 w c0 g ws.length ∧ Fw ws g
structure Pm (w : World) (X b : Nat) (c : Option Nat) (S : Ms) : Prop where
  blk : w.heap[X]? = some (.cells #[.map (some b), .int .i64 S.t, .map c] 66 (0, 0))
  ok : S.ok
  rm : ∃ f, Mg 9 w b f S.L.length ∧ Fm S.L f
  wm : Wm w c S.ws
  nb : X ≠ b
  nc : c ≠ some X
  nd : c ≠ some b
section
variable {w w' : World} {X b : Nat} {c : Option Nat} {S : Ms}
theorem Pm.lt (h : Pm w X b c S) : X < w.heap.size := (Array.getElem?_eq_some_iff.1 h.blk).1
theorem Pm.ltb (h : Pm w X b c S) : b < w.heap.size := by obtain ⟨f, hM, _⟩ := h.rm; exact hM.lt
theorem Pm.ltc (h : Pm w X b c S) {c0 : Nat} (e : c = some c0) : c0 < w.heap.size := by
  have := h.wm
  cases hw : S.ws with
  | none => rw [hw] at this; rw [show c = none from this] at e; cases e
  | some ws =>
    rw [hw] at this
    obtain ⟨c1, g, e1, hM, _⟩ := this
    rw [e1] at e; cases e
    exact hM.lt
theorem Wm.same {c : Option Nat} {o : Option (List Wr)} (h : Wm w c o) (e : ∀ c0, c = some c0 → w'.heap[c0]? = w.heap[c0]?) : Wm w' c o := by
  cases o with
  | none => exact h
  | some ws =>
    obtain ⟨c0, g, rfl, hM, hF⟩ := h
    exact ⟨c0, g, rfl, hM.same (e c0 rfl), hF⟩
theorem Pm.keep (h : Pm w X b c S) (h1 : w'.heap[X]? = w.heap[X]?) (h2 : w'.heap[b]? = w.heap[b]?) (h3 : ∀ c0, c = some c0 → w'.heap[c0]? = w.heap[c0]?) : Pm w' X b c S := by
  obtain ⟨f, hM, hF⟩ := h.rm
  exact ⟨h1.trans h.blk, h.ok, ⟨f, hM.same h2, hF⟩, h.wm.same h3, h.nb, h.nc, h.nd⟩
theorem Pm.below (h : Pm w X b c S) (hb : Below w.heap.size w w') : Pm w' X b c S :=
  h.keep (hb.block _ h.lt) (hb.block _ h.ltb) (fun c0 e => hb.block _ (h.ltc e))
theorem Pm.chg {s : Nat → Prop} (h : Pm w X b c S) (hc : Chg s w w') (hs : ∀ j, Ex X b c j → ¬ s j) : Pm w' X b c S :=
  h.keep (hc.2 _ h.lt (hs _ (.inl rfl))) (hc.2 _ h.ltb (hs _ (.inr (.inl rfl)))) (fun c0 e => hc.2 _ (h.ltc e) (hs _ (.inr (.inr e))))
theorem Pm.cells (h : Pm w X b c S) : w.cell? ⟨X, 0, none⟩ = some (.map (some b)) ∧ w.cell? ⟨X, 1, none⟩ = some (.int .i64 S.t) ∧ w.cell? ⟨X, 2, none⟩ = some (.map c) := by
  refine ⟨?_, ?_, ?_⟩ <;> (rw [Go.Joins.cell_of_block h.blk]; rfl)
theorem Pm.ex_lt (h : Pm w X b c S) {j : Nat} (e : Ex X b c j) : j < w.heap.size := by
  rcases e with rfl | rfl | e
  · exact h.lt
  · exact h.ltb
  · exact h.ltc e
end

/-! ### A map held against nil -/
theorem eqRs (b : Nat) (u : World) : (binOp .eql 63 (.map (some b)) (.map none)).run Try.prog u = .ok (.bool false) u := by kernel_rfl
theorem eqWs (b : Nat) (u : World) : (binOp .eql 64 (.map (some b)) (.map none)).run Try.prog u = .ok (.bool false) u := by kernel_rfl
theorem eqWn (u : World) : (binOp .eql 64 (.map none) (.map none)).run Try.prog u = .ok (.bool true) u := by kernel_rfl
theorem neWs (b : Nat) (u : World) : (binOp .neq 64 (.map (some b)) (.map none)).run Try.prog u = .ok (.bool true) u := by kernel_rfl
theorem neWn (u : World) : (binOp .neq 64 (.map none) (.map none)).run Try.prog u = .ok (.bool false) u := by kernel_rfl

/-! ### Small functions -/
abbrev Cl.v (c : Cl) : Value := .agg #[.int .i64 c.kind, .int .i64 c.mode, .string c.key, .string c.high, .string c.val, .int .i64 c.draw, .int .i64 c.n]
abbrev Cl.cells (c : Cl) : List Value := [.int .i64 c.kind, .int .i64 c.mode, .string c.key, .string c.high, .string c.val, .int .i64 c.draw, .int .i64 c.n]
section
set_option maxHeartbeats 4000000
set_option maxRecDepth 100000
variable {w : World} {X b : Nat} {c : Option Nat} {S : Ms}
theorem mKey_any (s : ByteArray) (w : World) : Calls Try.prog 25 #[.string s] w fun e w' => e = .returned (.bool (isK s)) ∧ w' = w := by
  unfold isK
  go_enter Try.func25, Try.ntmps25
  by_cases h1 : 1 ≤ s.size
  · by_cases h2 : s.size ≤ 16
    · have d1 : (1 : Int) ≤ (s.size : Int) := by omega
      have d2 : (s.size : Int) ≤ 16 := by omega
      go_wp2
      go_ret
      exact ⟨by simp [h1, h2], rfl⟩
    · have d1 : (1 : Int) ≤ (s.size : Int) := by omega
      have d2 : ¬ (s.size : Int) ≤ 16 := by omega
      go_wp2
      go_ret
      exact ⟨by simp [h1, h2], rfl⟩
  · have d1 : ¬ (1 : Int) ≤ (s.size : Int) := by omega
    go_wp2
    go_ret
    exact ⟨by simp [h1], rfl⟩
theorem mVal_any (s : ByteArray) (w : World) : Calls Try.prog 26 #[.string s] w fun e w' => e = .returned (.bool (isV s)) ∧ w' = w := by
  unfold isV
  go_enter Try.func26, Try.ntmps26
  by_cases h2 : s.size ≤ 64
  · have d2 : (s.size : Int) ≤ 64 := by omega
    go_wp2
    go_ret
    exact ⟨by simp [h2], rfl⟩
  · have d2 : ¬ (s.size : Int) ≤ 64 := by omega
    go_wp2
    go_ret
    exact ⟨by simp [h2], rfl⟩
theorem mTime_any (t : Int) (w : World) : Calls Try.prog 27 #[.int .i64 t] w fun e w' => e = .returned (.bool (isT t)) ∧ w' = w := by
  unfold isT
  go_enter Try.func27, Try.ntmps27
  by_cases d1 : 0 ≤ t
  · by_cases d2 : t < 1099511627776
    · go_wp2
      go_ret
      exact ⟨by simp [d1, show t ≤ 1099511627775 by omega], rfl⟩
    · go_wp2
      go_ret
      exact ⟨by simp [show ¬ t ≤ 1099511627775 by omega], rfl⟩
  · go_wp2
    go_ret
    exact ⟨by simp [show ¬ (0 : Int) ≤ t by omega], rfl⟩
theorem errIf_any (x : Bool) (e : Int) (w : World) : Calls Try.prog 67 #[.bool x, .int .i64 e] w fun r w' => r = .returned (.int .i64 (if x then e else 0)) ∧ w' = w := by
  go_enter Try.func67, Try.ntmps67
  cases x with
  | true =>
    go_wp2
    go_ret
    exact ⟨rfl, rfl⟩
  | false =>
    go_wp2
    go_ret
    exact ⟨rfl, rfl⟩
theorem none_any (h : Pm w X b c S) : Calls Try.prog 29 #[ptr X] w fun e w' => e = .returned (.bool false) ∧ w' = w := by
  obtain ⟨c0, c1, c2⟩ := h.cells
  go_enter Try.func29, Try.ntmps29
  have q1 := eqRs b w
  go_wp2
  go_ret
  exact ⟨rfl, rfl⟩
theorem none_nil (w : World) : Calls Try.prog 29 #[.pointer none] w fun e w' => e = .returned (.bool true) ∧ w' = w := by
  go_enter Try.func29, Try.ntmps29
  go_wp2
  go_ret
  exact ⟨rfl, rfl⟩
end
end Go.Proofs.Ytheidhkmmihjlaa
