/-
  Vs2: Layer 15 (sweep) without memory: what a sweep leaves; nodes whose chains have no version in common.
-/
import Derived.Test.YtfhcphgjaobnoaaDoorTbG
import Derived.Test.YtfhcphgjaobnoaaDoorVt0
set_option linter.unusedVariables false
set_option linter.unusedSimpArgs false
namespace Go.Proofs.YtfhcphgjaobnoaaDoor

section
open Go.RowKit Go.Maps

/-- A version's words. -/
def pr (A : Stt) (v : Nat) : Int × Int := (A.va 2 v, A.va 3 v)
/-- What a sweep of a node leaves, whose chain is l. -/
def swpA (mark : Int) (A : Stt) (n : Nat) (l : List Nat) : Stt :=
  if kp mark (l.map (pr A)) = l.length then A
  else if 0 < kp mark (l.map (pr A)) then offs (A.put 4 (l.getD (kp mark (l.map (pr A)) - 1) 0) 0) (l.drop (kp mark (l.map (pr A))))
  else ((offs (A.put 4 (l.getD 0 0) 0) (l.drop 1)).off 1 (l.getD 0 0)).put 0 n ((offs (A.put 4 (l.getD 0 0) 0) (l.drop 1)).va 4 (l.getD 0 0))
def goneN (mark : Int) (A : Stt) (l : List Nat) : Nat := l.length - kp mark (l.map (pr A))
/-- A node's chain; of what is no node there is none. -/
def ChN (A : Stt) (n : Int) (l : List Nat) : Prop := (lvI A 0 n = true ∧ Ch A (A.va 0 n.toNat) l) ∨ (lvI A 0 n = false ∧ l = [])
theorem Ch.uniq {A : Stt} : ∀ {l l' : List Nat} {x : Int}, Ch A x l → Ch A x l' → l = l'
  | [], [], _, _, _ => rfl
  | [], m :: l', x, h, h' => by
    exfalso
    obtain ⟨rfl, h1, _⟩ := h'
    rcases h with h | h
    · omega
    · simp [h1] at h
  | n :: l, [], x, h', h => by
    exfalso
    obtain ⟨rfl, h1, _⟩ := h'
    rcases h with h | h
    · omega
    · simp [h1] at h
  | n :: l, m :: l', x, h, h' => by
    obtain ⟨rfl, _, h2⟩ := h
    obtain ⟨e, _, h2'⟩ := h'
    have e : n = m := by omega
    subst e
    rw [Ch.uniq h2 h2']
theorem ChN.uniq {A : Stt} {n : Int} {l l' : List Nat} (h : ChN A n l) (h' : ChN A n l') : l = l' := by
  rcases h with ⟨h1, h2⟩ | ⟨h1, h2⟩ <;> rcases h' with ⟨h1', h2'⟩ | ⟨h1', h2'⟩
  · exact h2.uniq h2'
  · rw [h1] at h1'; cases h1'
  · rw [h1] at h1'; cases h1'
  · rw [h2, h2']
theorem chN_ex {A : Stt} (hok : A.ok) (n : Int) : ∃ l, ChN A n l ∧ l.length ≤ A.la 1 + 1 := by
  cases e : lvI A 0 n with
  | false => exact ⟨[], .inr ⟨e, rfl⟩, by simp⟩
  | true =>
    have e2 : A.lv 0 n.toNat = true := by unfold lvI at e; simp at e; exact e.2
    have := hok.hd _ e2
    obtain ⟨l, hl, hn⟩ := ch_ex hok (A.la 1 + 1) (A.va 0 n.toNat) (by omega)
    exact ⟨l, .inl ⟨e, hl⟩, hn⟩
/-- Nodes in order, swept each: what is left, how many went. -/
def Sws (mark : Int) : Stt → List Int → Stt → Nat → Prop
  | A, [], A', g => A' = A ∧ g = 0
  | A, n :: ns, A', g => ∃ l g2, ChN A n l ∧ Sws mark (swpA mark A n.toNat l) ns A' g2 ∧ g = goneN mark A l + g2
theorem Sws.det {mark : Int} : ∀ {ns : List Int} {A A1 A2 : Stt} {g1 g2 : Nat}, Sws mark A ns A1 g1 → Sws mark A ns A2 g2 → A1 = A2 ∧ g1 = g2
  | [], A, A1, A2, g1, g2, h1, h2 => ⟨h1.1.trans h2.1.symm, h1.2.trans h2.2.symm⟩
  | n :: ns, A, A1, A2, g1, g2, ⟨l, k, a1, a2, a3⟩, ⟨l', k', b1, b2, b3⟩ => by
    have e := a1.uniq b1
    subst e
    obtain ⟨e1, e2⟩ := Sws.det a2 b2
    exact ⟨e1, by omega⟩
theorem Sws.snoc {mark : Int} : ∀ {ns : List Int} {A B : Stt} {g : Nat} {n : Int} {l : List Nat}, Sws mark A ns B g → ChN B n l → Sws mark A (ns ++ [n]) (swpA mark B n.toNat l) (g + goneN mark B l)
  | [], A, B, g, n, l, h, hc => by obtain ⟨rfl, rfl⟩ := h; exact ⟨l, 0, hc, ⟨rfl, rfl⟩, by omega⟩
  | m :: ns, A, B, g, n, l, ⟨l1, g2, a1, a2, a3⟩, hc => ⟨l1, g2 + goneN mark B l, a1, Sws.snoc a2 hc, by omega⟩

/-! ### nodes with chains that have no version in common -/
structure Nds (A : Stt) (m : Nat) (L : Nat → List Nat) (W : Nat → List (Int × Int)) : Prop where
  la : A.la 0 = m
  fr : ∀ n, 1 ≤ n → n ≤ m → Frt A n (A.va 0 n) (L n)
  dj : ∀ n k, n ≠ k → 1 ≤ n → n ≤ m → 1 ≤ k → k ≤ m → ∀ v, v ∈ L n → ¬ v ∈ L k
  wd : ∀ n, 1 ≤ n → n ≤ m → (L n).map (pr A) = W n
section
variable {A A' : Stt} {m : Nat} {L : Nat → List Nat} {W : Nat → List (Int × Int)}
theorem Nds.zero : Nds Stt.zero 0 (fun _ => []) (fun _ => []) := ⟨rfl, fun n h1 h2 => by omega, fun n k _ h1 h2 => by omega, fun n h1 h2 => by omega⟩
theorem Nds.node (hok : A.ok) (h : Nds A m L W) : Nds A.node (m + 1) (up1 L (m + 1) []) (up1 W (m + 1) []) := by
  have hl := h.la
  have va : ∀ k n, (k < 2 → n ≠ m + 1) → A.node.va k n = A.va k n := fun k n q => by
    show up2 (up2 A.va 0 (A.la 0 + 1) 0) 1 (A.la 0 + 1) 0 k n = _
    rw [up2_other _ _ (fun e => q (by omega) (by omega)), up2_other _ _ (fun e => q (by omega) (by omega))]
  have lv : ∀ n, A.node.lv 1 n = A.lv 1 n := fun n => by
    show up2 A.lv 0 (A.la 0 + 1) true 1 n = _
    rw [up2_other _ _ (fun e => by omega)]
  refine ⟨by show up1 A.la 0 (A.la 0 + 1) 0 = _; rw [up1_same]; omega, fun n h1 h2 => ?_, fun n k hne h1 h2 h3 h4 v hv hv' => ?_, fun n h1 h2 => ?_⟩
  · by_cases e : n = m + 1
    · subst e
      have e0 : A.node.va 0 (m + 1) = 0 := by
        show up2 (up2 A.va 0 (A.la 0 + 1) 0) 1 (A.la 0 + 1) 0 0 (m + 1) = _
        rw [up2_other _ _ (fun e => by omega), hl, up2_same]
      rw [up1_same, e0]
      refine ⟨?_, e0, ?_, .inl rfl⟩
      · right
        rw [lv]
        cases q : A.lv 1 (0 : Int).toNat with
        | false => rfl
        | true => have := hok.n1 1 _ q; simp at this
      · show up2 A.lv 0 (A.la 0 + 1) true 0 (m + 1) = true
        rw [hl, up2_same]
    · have f := h.fr n h1 (by omega)
      rw [up1_other _ _ e, va 0 n (fun _ => e)]
      refine ⟨f.ch.congr hok (fun x hx => ⟨by rw [lv]; exact f.ch.live x hx, va 4 x (fun q => by omega)⟩) (fun y _ hy => by rw [lv] at hy; exact hy), va 0 n (fun _ => e), ?_, ?_⟩
      · show up2 A.lv 0 (A.la 0 + 1) true 0 n = true
        rw [up2_other _ _ (fun q => e (by omega))]; exact f.lv
      · rcases f.xn with q | ⟨y, q1, q2, q3⟩
        · exact .inl q
        · exact .inr ⟨y, q1, by rw [lv]; exact q2, q3⟩
  · by_cases e : n = m + 1
    · subst e; rw [up1_same] at hv; cases hv
    · by_cases e' : k = m + 1
      · subst e'; rw [up1_same] at hv'; cases hv'
      · rw [up1_other _ _ e] at hv; rw [up1_other _ _ e'] at hv'
        exact h.dj n k hne h1 (by omega) h3 (by omega) v hv hv'
  · by_cases e : n = m + 1
    · subst e; rw [up1_same, up1_same]; rfl
    · rw [up1_other _ _ e, up1_other _ _ e, ← h.wd n h1 (by omega)]
      refine List.map_congr_left fun x _ => ?_
      show (A.node.va 2 x, A.node.va 3 x) = (A.va 2 x, A.va 3 x)
      rw [va 2 x (fun q => by omega), va 3 x (fun q => by omega)]
/-- A version is made ahead of a node's chain, with an end. -/
def Stt.lead (A : Stt) (n : Nat) (t : ByteArray) (b e x : Int) : Stt := (A.front n t b x).put 3 (A.la 1 + 1) e
theorem lead_eq {n : Nat} {t : ByteArray} {b e x : Int} (h : A.va 0 n = x) : ((A.ver t b x).put 3 (A.la 1 + 1) e).swap 0 n x ((A.la 1 + 1 : Nat) : Int) = A.lead n t b e x := by
  have h1 : ((A.ver t b x).put 3 (A.la 1 + 1) e).va 0 n = x := by
    show up2 (A.ver t b x).va 3 (A.la 1 + 1) e 0 n = x
    rw [up2_other _ _ (fun q => by omega), ver_va0, h]
  unfold Stt.swap
  rw [if_pos h1]
  show Stt.mk _ _ (up2 (up2 (A.ver t b x).va 3 (A.la 1 + 1) e) 0 n ((A.la 1 + 1 : Nat) : Int)) _ = Stt.mk _ _ (up2 (up2 (A.ver t b x).va 0 n ((A.la 1 + 1 : Nat) : Int)) 3 (A.la 1 + 1) e) _
  congr 1
  funext k y
  unfold up2
  by_cases q : k = 0 ∧ y = n
  · rw [if_pos q, if_neg (fun e => by omega), if_pos q]
  · rw [if_neg q]
    by_cases q2 : k = 3 ∧ y = A.la 1 + 1
    · rw [if_pos q2, if_pos q2]
    · rw [if_neg q2, if_neg q2, if_neg q]
theorem lead_never {n : Nat} {t : ByteArray} {b x : Int} : A.front n t b x = A.lead n t b 1099511627776 x := by
  show Stt.mk _ _ (A.front n t b x).va _ = Stt.mk _ _ (up2 (A.front n t b x).va 3 (A.la 1 + 1) 1099511627776) _
  congr 1
  funext k y
  by_cases q : k = 3 ∧ y = A.la 1 + 1
  · rw [q.1, q.2, up2_same, front_va3, if_pos rfl]
  · rw [up2_other _ _ q]
theorem Nds.lead (hok : A.ok) (h : Nds A m L W) {n : Nat} (h1 : 1 ≤ n) (h2 : n ≤ m) {t : ByteArray} {b e : Int} :
    Nds (A.lead n t b e (A.va 0 n)) m (up1 L n ((A.la 1 + 1) :: L n)) (up1 W n ((b, e) :: W n)) := by
  have fn := h.fr n h1 h2
  have new : ∀ k, 1 ≤ k → k ≤ m → ∀ v ∈ L k, v ≠ A.la 1 + 1 := fun k q1 q2 v hv e => by
    have := (hok.n1 1 v ((h.fr k q1 q2).ch.live v hv)).2
    omega
  have va0 : ∀ k, (A.lead n t b e (A.va 0 n)).va 0 k = if k = n then ((A.la 1 + 1 : Nat) : Int) else A.va 0 k := fun k => by
    show up2 (A.front n t b (A.va 0 n)).va 3 (A.la 1 + 1) e 0 k = _
    rw [up2_other _ _ (fun q => by omega), front_va0]
  have va4 : ∀ k, (A.lead n t b e (A.va 0 n)).va 4 k = if k = A.la 1 + 1 then A.va 0 n else A.va 4 k := fun k => by
    show up2 (A.front n t b (A.va 0 n)).va 3 (A.la 1 + 1) e 4 k = _
    rw [up2_other _ _ (fun q => by omega), front_va4]
  have va3 : ∀ k, (A.lead n t b e (A.va 0 n)).va 3 k = if k = A.la 1 + 1 then e else A.va 3 k := fun k => by
    show up2 (A.front n t b (A.va 0 n)).va 3 (A.la 1 + 1) e 3 k = _
    by_cases q : k = A.la 1 + 1
    · rw [q, up2_same, if_pos rfl]
    · rw [up2_other _ _ (fun e => q e.2), front_va3, if_neg q, if_neg q]
  have va2 : ∀ k, (A.lead n t b e (A.va 0 n)).va 2 k = if k = A.la 1 + 1 then b else A.va 2 k := fun k => by
    show up2 (A.front n t b (A.va 0 n)).va 3 (A.la 1 + 1) e 2 k = _
    rw [up2_other _ _ (fun q => by omega)]
    show up2 (up2 (up2 (up2 A.va 2 (A.la 1 + 1) b) 3 (A.la 1 + 1) 1099511627776) 4 (A.la 1 + 1) (A.va 0 n)) 0 n ((A.la 1 + 1 : Nat) : Int) 2 k = _
    rw [up2_other _ _ (fun q => by omega), up2_other _ _ (fun q => by omega), up2_other _ _ (fun q => by omega)]
    by_cases q : k = A.la 1 + 1
    · rw [q, up2_same, if_pos rfl]
    · rw [up2_other _ _ (fun e => q e.2), if_neg q]
  have lv : ∀ c k, (A.lead n t b e (A.va 0 n)).lv c k = if c = 1 ∧ k = A.la 1 + 1 then true else A.lv c k := fun c k => front_lv n t b (A.va 0 n) c k
  have pro : ∀ v, v ≠ A.la 1 + 1 → pr (A.lead n t b e (A.va 0 n)) v = pr A v := fun v hv => by
    show ((A.lead n t b e (A.va 0 n)).va 2 v, (A.lead n t b e (A.va 0 n)).va 3 v) = (A.va 2 v, A.va 3 v)
    rw [va2, va3, if_neg hv, if_neg hv]
  have chk : ∀ k, 1 ≤ k → k ≤ m → Ch (A.lead n t b e (A.va 0 n)) (A.va 0 k) (L k) := fun k q1 q2 => by
    have f := h.fr k q1 q2
    refine f.ch.congr hok (fun x hx => ⟨?_, ?_⟩) (fun y hy q => ?_)
    · rw [lv]; split
      · rfl
      · exact f.ch.live x hx
    · rw [va4, if_neg (new k q1 q2 x hx)]
    · have := (f.le hok).2
      rw [lv, if_neg (fun e => by omega)] at q
      exact q
  refine ⟨by show up1 A.la 1 (A.la 1 + 1) 0 = _; rw [up1_other _ _ (by omega)]; exact h.la, fun k q1 q2 => ?_, fun k j hne q1 q2 q3 q4 v hv hv' => ?_, fun k q1 q2 => ?_⟩
  · by_cases ek : k = n
    · subst ek
      rw [up1_same]
      have e0 := va0 k
      rw [if_pos rfl] at e0
      rw [e0]
      refine ⟨⟨rfl, by rw [lv, if_pos ⟨rfl, rfl⟩], ?_⟩, e0, by rw [lv, if_neg (fun q => by omega)]; exact fn.lv, .inr ⟨_, rfl, by rw [lv, if_pos ⟨rfl, rfl⟩], by omega⟩⟩
      rw [va4, if_pos rfl]
      exact chk k h1 h2
    · have f := h.fr k q1 q2
      have e0 := va0 k
      rw [if_neg ek] at e0
      rw [up1_other _ _ ek, e0]
      refine ⟨chk k q1 q2, e0, by rw [lv, if_neg (fun q => by omega)]; exact f.lv, ?_⟩
      rcases f.xn with q | ⟨y, q1, q2, q3⟩
      · exact .inl q
      · exact .inr ⟨y, q1, by rw [lv]; split
                              · rfl
                              · exact q2, q3⟩
  · have old : ∀ i, 1 ≤ i → i ≤ m → ∀ v ∈ up1 L n ((A.la 1 + 1) :: L n) i, (i = n ∧ v = A.la 1 + 1) ∨ v ∈ L i := fun i _ _ v hv => by
      by_cases ei : i = n
      · subst ei
        rw [up1_same] at hv
        rcases List.mem_cons.1 hv with q | q
        · exact .inl ⟨rfl, q⟩
        · exact .inr q
      · rw [up1_other _ _ ei] at hv; exact .inr hv
    rcases old k q1 q2 v hv with ⟨e1, e2⟩ | a <;> rcases old j q3 q4 v hv' with ⟨e3, e4⟩ | b
    · omega
    · exact new j q3 q4 v b e2
    · exact new k q1 q2 v a e4
    · exact h.dj k j hne q1 q2 q3 q4 v a b
  · by_cases ek : k = n
    · subst ek
      rw [up1_same, up1_same, List.map_cons, ← h.wd k h1 h2]
      congr 1
      · show ((A.lead k t b e (A.va 0 k)).va 2 _, (A.lead k t b e (A.va 0 k)).va 3 _) = _
        rw [va2, va3, if_pos rfl, if_pos rfl]
      · exact List.map_congr_left fun v hv => pro v (new k h1 h2 v hv)
    · rw [up1_other _ _ ek, up1_other _ _ ek, ← h.wd k q1 q2]
      exact List.map_congr_left fun v hv => pro v (new k q1 q2 v hv)
end
end
end Go.Proofs.YtfhcphgjaobnoaaDoor
