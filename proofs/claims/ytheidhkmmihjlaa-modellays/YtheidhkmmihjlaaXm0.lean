/-
  Xm0: The model without memory: rows, a time, what a transaction has written; what a call is answered, and what it leaves.
-/
import Derived.Test.YtheidhkmmihjlaaRl0
set_option linter.unusedVariables false
set_option linter.unusedSimpArgs false
namespace Go.Proofs.Ytheidhkmmihjlaa
open Go.RowKit
open ML (Ro Srt nless fstOf Fst strLit strLit_inj setL setL_same setL_other delL delL_same delL_other od nl_irr nl_tr nl_tot)

instance : DecidableEq Wr := fun a b => if h : a.key = b.key ∧ a.val = b.val ∧ a.gone = b.gone then isTrue (by cases a; cases b; simp_all) else isFalse (by rintro rfl; simp at h)
abbrev SrtW (l : List Wr) : Prop := Ck.Ris (fun a b : ByteArray => nless a b = true) Wr.key l
/-- A model: rows, its time, what its transaction has written, if there is one. -/
structure Ms where
  L : List Ro
  t : Int
  ws : Option (List Wr)
/-- A call. -/
structure Cl where
  kind : Int
  mode : Int
  key : ByteArray
  high : ByteArray
  val : ByteArray
  draw : Int
  n : Int
/-- A reply. -/
structure Rp where
  code : Int := 0
  val : ByteArray := .empty
  found : Bool := false
  rows : List Ro := []
  time : Int := 0
def wOf (ws : List Wr) (k : ByteArray) : Option Wr := ws.find? fun w => decide (w.key = k)
def look (S : Ms) (k : ByteArray) : Option ByteArray := match wOf (S.ws.getD []) k with
  | some w => if w.gone then none else some w.val
  | none => (fstOf S.L k).map Ro.v
def putW (ws : List Wr) (w : Wr) : List Wr := Ck.put (fun a b : ByteArray => nless a b = true) Wr.key w ws
def wrt (S : Ms) (w : Wr) : Ms × Rp :=
  if (wOf (S.ws.getD []) w.key).isNone ∧ (S.ws.getD []).length = 64 then (⟨S.L, S.t, none⟩, { code := 160 }) else (⟨S.L, S.t, some (putW (S.ws.getD []) w)⟩, {})
def cmt (S : Ms) : Ms × Rp :=
  if isT (S.t + 1) then (⟨doneW (S.t + 1) S.L (S.ws.getD []), S.t + 1, none⟩, { time := S.t + 1 }) else (⟨S.L, S.t, none⟩, { code := 161 })
def zt (r : Ro) : Ro := ⟨r.k, r.v, 0⟩
/-- What is there for the transaction. -/
def now (S : Ms) : List Ro := doneW 0 (S.L.map zt) (S.ws.getD [])
def ins (lo hi : ByteArray) (r : Ro) : Bool := !nless r.k lo && (decide (hi.size = 0) || nless r.k hi)
def scn (S : Ms) (lo hi : ByteArray) : List Ro := (now S).filter (ins lo hi)
def fst0 : List (Bool × Int) → Int
  | [] => 0
  | (b, e) :: r => if b then e else fst0 r
def badM (c : Cl) : Bool := c.mode != 1 && c.mode != 2
def badS (c : Cl) : Bool := decide (16 < c.key.size) || decide (16 < c.high.size)
/-- What may be wrong with a call of the n-th kind, in order. -/
def wrg (S : Ms) (c : Cl) : Nat → List (Bool × Int)
  | 1 => [(S.ws.isSome, 153), (badM c, 151)]
  | 2 => [(S.ws.isNone, 152), (!isK c.key, 154)]
  | 3 => [(S.ws.isNone, 152), (badS c, 154)]
  | 4 => [(S.ws.isNone, 152), (!isK c.key, 154), (!isV c.val, 155), ((look S c.key).isSome, 156)]
  | 5 => [(S.ws.isNone, 152), (!isK c.key, 154), (!isV c.val, 155), (!(look S c.key).isSome, 157)]
  | 6 => [(S.ws.isNone, 152), (!isK c.key, 154), (!(look S c.key).isSome, 157)]
  | 7 => [(S.ws.isNone, 152)]
  | 8 => [(S.ws.isNone, 152)]
  | _ => [(S.ws.isSome, 153)]
def ans (S : Ms) (c : Cl) : Nat → Ms × Rp
  | 1 => (⟨S.L, S.t, some []⟩, {})
  | 2 => (S, { val := (look S c.key).getD .empty, found := (look S c.key).isSome })
  | 3 => (S, { rows := scn S c.key c.high })
  | 4 => wrt S ⟨c.key, c.val, false⟩
  | 5 => wrt S ⟨c.key, c.val, false⟩
  | 6 => wrt S ⟨c.key, .empty, true⟩
  | 7 => cmt S
  | 8 => (⟨S.L, S.t, none⟩, {})
  | _ => (S, {})
def stp (S : Ms) (c : Cl) : Ms × Rp :=
  if c.kind < 1 ∨ 11 < c.kind then (S, { code := 151 })
  else if fst0 (wrg S c c.kind.toNat) = 0 then ans S c c.kind.toNat else (S, { code := fst0 (wrg S c c.kind.toNat) })

/-! ### Right ones -/
structure Ms.ok (S : Ms) : Prop where
  srt : Srt S.L
  rows : ∀ r ∈ S.L, rightR (roW r) = true
  tm : isT S.t = true
  wsrt : ∀ ws, S.ws = some ws → SrtW ws ∧ ws.length ≤ 64 ∧ ∀ w ∈ ws, okW w = true
theorem isK_iff {s : ByteArray} : isK s = true ↔ 1 ≤ s.size ∧ s.size ≤ 16 := by simp [isK]
theorem isV_iff {s : ByteArray} : isV s = true ↔ s.size ≤ 64 := by simp [isV]
theorem isT_iff {t : Int} : isT t = true ↔ 0 ≤ t ∧ t ≤ 1099511627775 := by simp [isT]
theorem okW_iff {w : Wr} : okW w = true ↔ (1 ≤ w.key.size ∧ w.key.size ≤ 16) ∧ w.val.size ≤ 64 ∧ (w.gone = true → w.val.size = 0) := by
  unfold okW
  cases w.gone <;> simp [isK, isV, and_assoc]
theorem rightR_iff {r : Ro} : rightR (roW r) = true ↔ (1 ≤ r.k.size ∧ r.k.size ≤ 16) ∧ r.v.size ≤ 64 ∧ 0 ≤ r.t ∧ r.t ≤ 1099511627775 := by
  simp [rightR, isK, isV, isT, and_assoc]
theorem SrtW.inj {ws : List Wr} (h : SrtW ws) {a b : Wr} (ha : a ∈ ws) (hb : b ∈ ws) (e : a.key = b.key) : a = b := Ck.Ris.inj od h ha hb e
theorem wOf_some {ws : List Wr} (hs : SrtW ws) {k : ByteArray} {w : Wr} : wOf ws k = some w ↔ w ∈ ws ∧ w.key = k := by
  unfold wOf
  constructor
  · intro h; exact ⟨List.mem_of_find?_eq_some h, by simpa using List.find?_some h⟩
  · rintro ⟨h1, h2⟩
    cases hq : ws.find? fun w => decide (w.key = k) with
    | none =>
      have := List.find?_eq_none.1 hq w h1
      simp [h2] at this
    | some r' =>
      have m1 := List.mem_of_find?_eq_some hq
      have m2 : r'.key = k := by simpa using List.find?_some hq
      rw [hs.inj m1 h1 (by rw [m2, h2])]
theorem wOf_none {ws : List Wr} {k : ByteArray} : wOf ws k = none ↔ ∀ w ∈ ws, w.key ≠ k := by
  unfold wOf
  rw [List.find?_eq_none]
  simp
theorem putW_mem {ws : List Wr} (hs : SrtW ws) {w x : Wr} : x ∈ putW ws w ↔ x = w ∨ x ∈ ws ∧ x.key ≠ w.key := Ck.mem_put od hs
theorem putW_srt {ws : List Wr} (hs : SrtW ws) (w : Wr) : SrtW (putW ws w) := Ck.put_ris od hs
theorem put_len : ∀ (ws : List Wr) (w : Wr), (putW ws w).length ≤ ws.length + 1
  | [], w => by simp [putW, Ck.put]
  | a :: l, w => by
    have h := put_len l w
    unfold putW at h ⊢
    unfold Ck.put
    split
    · simp only [List.length_cons]; omega
    · split <;> simp
theorem put_len_same : ∀ {ws : List Wr} {w : Wr}, SrtW ws → (∃ x ∈ ws, x.key = w.key) → (putW ws w).length = ws.length
  | [], w, _, h => by obtain ⟨x, hx, _⟩ := h; cases hx
  | a :: l, w, hs, h => by
    have h' := List.pairwise_cons.1 hs
    unfold putW
    unfold Ck.put
    split
    · next q =>
      have := put_len_same (ws := l) (w := w) h'.2 (by
        obtain ⟨x, hx, e⟩ := h
        rcases List.mem_cons.1 hx with p | p
        · rw [p] at e; rw [e, nl_irr] at q; cases q
        · exact ⟨x, p, e⟩)
      unfold putW at this
      simp only [List.length_cons, this]
    · next q =>
      split
      · simp
      · next e =>
        obtain ⟨x, hx, e2⟩ := h
        rcases List.mem_cons.1 hx with p | p
        · rw [p] at e2; exact absurd e2 e
        · have := h'.1 x p; rw [e2] at this; exact absurd this q

/-! ### Rows behind writes, whatever their order -/
def Kd (ws : List Wr) : Prop := ws.Pairwise fun a b => a.key ≠ b.key
theorem SrtW.kd {ws : List Wr} (h : SrtW ws) : Kd ws := h.imp fun {a b} q e => by rw [e, nl_irr] at q; cases q
theorem Kd.perm {ws ws' : List Wr} (h : Kd ws) (p : ws.Perm ws') : Kd ws' := List.Perm.pairwise p h fun {a b} q e => q e.symm
theorem doneW_mem {t : Int} : ∀ {ws : List Wr} {L : List Ro}, Srt L → Kd ws → ∀ {x : Ro}, x ∈ doneW t L ws ↔ (∃ w ∈ ws, w.gone = false ∧ x = ⟨w.key, w.val, t⟩) ∨ (x ∈ L ∧ ∀ w ∈ ws, x.k ≠ w.key)
  | [], L, _, _, x => by simp [doneW]
  | w :: ws, L, hs, hk, x => by
    have hk' := List.pairwise_cons.1 hk
    have ih := doneW_mem (t := t) (ws := ws) (L := doneD L w t) (doneD_srt hs) hk'.2 (x := x)
    show x ∈ doneW t (doneD L w t) ws ↔ _
    rw [ih, doneD_mem hs, newR_mem]
    constructor
    · rintro (⟨v, hv, p⟩ | ⟨⟨p1, p2⟩ | ⟨p1, p2⟩, q⟩)
      · exact .inl ⟨v, List.mem_cons_of_mem _ hv, p⟩
      · exact .inl ⟨w, List.mem_cons_self, p1, p2⟩
      · exact .inr ⟨p1, fun v hv => by
          rcases List.mem_cons.1 hv with e | e
          · rw [e]; exact p2
          · exact q v e⟩
    · rintro (⟨v, hv, p1, p2⟩ | ⟨p, q⟩)
      · rcases List.mem_cons.1 hv with e | e
        · subst e
          exact .inr ⟨.inl ⟨p1, p2⟩, fun v hv => by rw [p2]; exact hk'.1 v hv⟩
        · exact .inl ⟨v, e, p1, p2⟩
      · exact .inr ⟨.inr ⟨p, q w List.mem_cons_self⟩, fun v hv => q v (List.mem_cons_of_mem _ hv)⟩
theorem doneW_perm {t : Int} {ws ws' : List Wr} {L : List Ro} (hs : Srt L) (hk : Kd ws) (p : ws.Perm ws') : doneW t L ws = doneW t L ws' := by
  refine Ck.Ris.eq od (doneW_srt hs) (doneW_srt hs) fun x => ?_
  rw [doneW_mem hs hk, doneW_mem hs (hk.perm p)]
  constructor
  · rintro (⟨w, hw, q⟩ | ⟨q1, q2⟩)
    · exact .inl ⟨w, p.mem_iff.1 hw, q⟩
    · exact .inr ⟨q1, fun w hw => q2 w (p.mem_iff.2 hw)⟩
  · rintro (⟨w, hw, q⟩ | ⟨q1, q2⟩)
    · exact .inl ⟨w, p.mem_iff.2 hw, q⟩
    · exact .inr ⟨q1, fun w hw => q2 w (p.mem_iff.1 hw)⟩
theorem zt_srt {L : List Ro} (h : Srt L) : Srt (L.map zt) := List.pairwise_map.2 h
theorem Ms.ok.kd {S : Ms} (h : S.ok) : SrtW (S.ws.getD []) := by
  cases hw : S.ws with
  | none => exact List.Pairwise.nil
  | some ws => exact (h.wsrt ws hw).1
theorem now_srt {S : Ms} (h : S.ok) : Srt (now S) := doneW_srt (zt_srt h.srt)
theorem scn_srt {S : Ms} (h : S.ok) {lo hi : ByteArray} : Srt (scn S lo hi) := List.Pairwise.filter _ (now_srt h)
theorem now_mem {S : Ms} (h : S.ok) {x : Ro} : x ∈ now S ↔ x.t = 0 ∧ look S x.k = some x.v := by
  unfold now
  rw [doneW_mem (zt_srt h.srt) h.kd.kd]
  unfold look
  constructor
  · rintro (⟨w, hw, hg, rfl⟩ | ⟨hx, hn⟩)
    · refine ⟨rfl, ?_⟩
      rw [(wOf_some h.kd).2 ⟨hw, rfl⟩]
      simp [hg]
    · obtain ⟨r, hr, rfl⟩ := List.mem_map.1 hx
      refine ⟨rfl, ?_⟩
      rw [wOf_none.2 fun w hw e => hn w hw e.symm]
      show (fstOf S.L r.k).map Ro.v = some r.v
      rw [(fst_iff h.srt).2 ⟨hr, rfl⟩]
      rfl
  · rintro ⟨h0, hl⟩
    cases hq : wOf (S.ws.getD []) x.k with
    | some w =>
      rw [hq] at hl
      obtain ⟨hw, hk⟩ := (wOf_some h.kd).1 hq
      cases hg : w.gone with
      | true => simp [hg] at hl
      | false =>
        simp [hg] at hl
        exact .inl ⟨w, hw, hg, by cases x; simp_all⟩
    | none =>
      rw [hq] at hl
      have hn := wOf_none.1 hq
      obtain ⟨r, hr, hv⟩ := Option.map_eq_some_iff.1 hl
      obtain ⟨hr1, hr2⟩ := (fst_iff h.srt).1 hr
      exact .inr ⟨List.mem_map.2 ⟨r, hr1, by cases x; cases r; simp_all [zt]⟩, fun w hw e => hn w hw e.symm⟩
theorem scn_mem {S : Ms} (h : S.ok) {lo hi : ByteArray} {x : Ro} : x ∈ scn S lo hi ↔ (x.t = 0 ∧ look S x.k = some x.v) ∧ ins lo hi x = true := by
  unfold scn
  rw [List.mem_filter, now_mem h]

/-! ### What is right stays so -/
theorem wrt_ok {S : Ms} (h : S.ok) {w : Wr} (hw : okW w = true) : (wrt S w).1.ok := by
  unfold wrt
  split
  · exact ⟨h.srt, h.rows, h.tm, fun ws q => by cases q⟩
  · next hn =>
    refine ⟨h.srt, h.rows, h.tm, fun ws q => ?_⟩
    cases q
    have hS := h.kd
    have hl : (S.ws.getD []).length ≤ 64 := by
      cases hw : S.ws with
      | none => simp
      | some ws => exact (h.wsrt ws hw).2.1
    have hr : ∀ w ∈ S.ws.getD [], okW w = true := by
      cases hw : S.ws with
      | none => simp
      | some ws => exact (h.wsrt ws hw).2.2
    refine ⟨putW_srt hS w, ?_, fun x hx => ?_⟩
    · cases hq : wOf (S.ws.getD []) w.key with
      | none =>
        have := put_len (S.ws.getD []) w
        have h2 : (S.ws.getD []).length ≠ 64 := fun e => hn ⟨by rw [hq]; rfl, e⟩
        omega
      | some x =>
        obtain ⟨h1, h2⟩ := (wOf_some hS).1 hq
        rw [put_len_same hS ⟨x, h1, h2⟩]
        exact hl
    · rcases (putW_mem hS).1 hx with e | e
      · rw [e]; exact hw
      · exact hr x e.1
theorem done_ok {t : Int} {L : List Ro} {ws : List Wr} (hs : Srt L) (hr : ∀ r ∈ L, rightR (roW r) = true) (ht : isT t = true) (hk : Kd ws) (hw : ∀ w ∈ ws, okW w = true) : (⟨doneW t L ws, t, none⟩ : Ms).ok := by
  refine ⟨doneW_srt hs, fun r q => ?_, ht, fun ws q => by cases q⟩
  rcases (doneW_mem hs hk).1 q with ⟨w, h1, h2, rfl⟩ | ⟨h1, _⟩
  · have := okW_iff.1 (hw w h1)
    have := isT_iff.1 ht
    exact rightR_iff.2 ⟨by simp_all, by simp_all, by simp_all⟩
  · exact hr r h1
theorem Ms.ok.ows {S : Ms} (h : S.ok) : ∀ w ∈ S.ws.getD [], okW w = true := by
  cases hw : S.ws with
  | none => simp
  | some ws => exact (h.wsrt ws hw).2.2
theorem Ms.ok.shut {S : Ms} (h : S.ok) : (⟨S.L, S.t, none⟩ : Ms).ok := ⟨h.srt, h.rows, h.tm, fun ws q => by cases q⟩
theorem cmt_ok {S : Ms} (h : S.ok) : (cmt S).1.ok := by
  unfold cmt
  split
  · next q => exact done_ok h.srt h.rows q h.kd.kd h.ows
  · exact h.shut
theorem fst0_zero : ∀ {l : List (Bool × Int)}, (∀ x ∈ l, x.2 ≠ 0) → fst0 l = 0 → ∀ x ∈ l, x.1 = false
  | [], _, _, x, hx => by cases hx
  | (b, e) :: l, hn, h, x, hx => by
    cases b with
    | true => exact absurd h (hn (true, e) List.mem_cons_self)
    | false =>
      rcases List.mem_cons.1 hx with q | q
      · rw [q]
      · exact fst0_zero (l := l) (fun x hx => hn x (List.mem_cons_of_mem _ hx)) h x q
end Go.Proofs.Ytheidhkmmihjlaa
