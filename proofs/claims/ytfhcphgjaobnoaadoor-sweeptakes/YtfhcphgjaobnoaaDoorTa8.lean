/-
  The store in memory: something is made. (Printed by gen_ta8.py.)
-/
import Derived.Test.YtfhcphgjaobnoaaDoorTa7
import Derived.Test.YtfhcphgjaobnoaaDoorClo
import Derived.Great.BuildSlice
set_option linter.unusedVariables false
set_option linter.unusedSimpArgs false
namespace Go.Proofs.YtfhcphgjaobnoaaDoor
open Go.RowKit Go.Maps

theorem fOf_congr {L L' : Nat → Bool} {g g' : Nat → Value} (h1 : ∀ n, L' n = L n) (h2 : ∀ n, g' n = g n) (m : Int) : fOf L' g' m = fOf L g m := by
  unfold fOf
  rw [h1, h2]
theorem fOf_new {L L' : Nat → Bool} {g g' : Nat → Value} {nn : Nat} (h1 : ∀ n, n ≠ nn → L' n = L n) (h2 : ∀ n, n ≠ nn → g' n = g n) (m : Int) (hm : m ≠ (nn : Int)) : fOf L' g' m = fOf L g m := by
  by_cases h0 : 0 ≤ m
  · have : m.toNat ≠ nn := by omega
    unfold fOf
    rw [h1 _ this, h2 _ this]
  · rw [fOf_out (.inl (by omega)), fOf_out (.inl (by omega))]

section
variable {w w' : World} {sb d l0 l1 l2 q k : Nat} {m0 m1 m2 : Option Nat} {f f' : Int → Option Value}
theorem addN_any {x0 x1 : Int} (h : Sb w sb d l0 m0 l1 m1 l2 m2) (hm : Mp w m0 f q k) (hq : q < 1000000000) (hl : l0 < 1000000000) (e0 : f ((l0 + 1 : Nat) : Int) = none) (e1 : f' ((l0 + 1 : Nat) : Int) = some (.agg #[.int .i64 x0, .int .i64 x1])) (e2 : ∀ m, m ≠ ((l0 + 1 : Nat) : Int) → f' m = f m) :
    Calls Tryd.prog 60 #[.pointer (some ⟨sb, 1, none⟩), .agg #[.int .i64 x0, .int .i64 x1]] w fun e w' => e = .returned (.int .i64 ((l0 + 1 : Nat) : Int)) ∧ ∃ b, (m0 = some b ∨ m0 = none ∧ w.heap.size ≤ b) ∧ Sb w' sb d (l0 + 1) (some b) l1 m1 l2 m2 ∧ Mp w' (some b) f' (q + 1) (k + 1) ∧ Fr (fun j => j = sb ∨ m0 = some j) w w' := by
  cases m0 with
  | none =>
    have hf0 : (∀ n, f n = none) ∧ k = 0 := by
      rcases hm with ⟨_, a, b⟩ | ⟨b, D, e, _⟩
      · exact ⟨a, b⟩
      · cases e
    obtain ⟨hf0, rfl⟩ := hf0
    refine (addN_none h hf0 hq hl e0 e1 e2).mono ?_
    rintro e w' ⟨rfl, b, a1, a2, a3, a4⟩
    exact ⟨rfl, b, .inr ⟨rfl, a1⟩, a2, a3, a4.mono (fun j _ e => .inl e)⟩
  | some b =>
    refine (addN_some h hm hq hl e0 e1 e2).mono ?_
    rintro e w' ⟨rfl, a2, a3, a4⟩
    exact ⟨rfl, b, .inl rfl, a2, a3, a4.mono (fun j _ e => e.imp id (fun q => by rw [q]))⟩
theorem addV_any {x0 : ByteArray} {x1 x2 x3 : Int} (h : Sb w sb d l0 m0 l1 m1 l2 m2) (hm : Mp w m1 f q k) (hq : q < 1000000000) (hl : l1 < 1000000000) (e0 : f ((l1 + 1 : Nat) : Int) = none) (e1 : f' ((l1 + 1 : Nat) : Int) = some (.agg #[.string x0, .int .i64 x1, .int .i64 x2, .int .i64 x3])) (e2 : ∀ m, m ≠ ((l1 + 1 : Nat) : Int) → f' m = f m) :
    Calls Tryd.prog 57 #[.pointer (some ⟨sb, 3, none⟩), .agg #[.string x0, .int .i64 x1, .int .i64 x2, .int .i64 x3]] w fun e w' => e = .returned (.int .i64 ((l1 + 1 : Nat) : Int)) ∧ ∃ b, (m1 = some b ∨ m1 = none ∧ w.heap.size ≤ b) ∧ Sb w' sb d l0 m0 (l1 + 1) (some b) l2 m2 ∧ Mp w' (some b) f' (q + 1) (k + 1) ∧ Fr (fun j => j = sb ∨ m1 = some j) w w' := by
  cases m1 with
  | none =>
    have hf0 : (∀ n, f n = none) ∧ k = 0 := by
      rcases hm with ⟨_, a, b⟩ | ⟨b, D, e, _⟩
      · exact ⟨a, b⟩
      · cases e
    obtain ⟨hf0, rfl⟩ := hf0
    refine (addV_none h hf0 hq hl e0 e1 e2).mono ?_
    rintro e w' ⟨rfl, b, a1, a2, a3, a4⟩
    exact ⟨rfl, b, .inr ⟨rfl, a1⟩, a2, a3, a4.mono (fun j _ e => .inl e)⟩
  | some b =>
    refine (addV_some h hm hq hl e0 e1 e2).mono ?_
    rintro e w' ⟨rfl, a2, a3, a4⟩
    exact ⟨rfl, b, .inl rfl, a2, a3, a4.mono (fun j _ e => e.imp id (fun q => by rw [q]))⟩
end

section
variable {w w' : World} {K : Nat → Prop} {sb d g : Nat} {m0 m1 m2 : Option Nat} {T T' : List Bool} {N N' : List Int} {m m' : Int} {F F' : List Nat} {own own' : Nat → Option (Nat × Nat)} {pl : Nat → Nat → Nat} {k1 b kq : Nat} {A : Stt}
theorem Sm.lt0 (h : Sm w K sb d g m0 m1 m2 T N m F own pl k1 A) : (∀ j, m0 = some j → j < w.heap.size) ∧ (∀ j, m1 = some j → j < w.heap.size) ∧ (∀ j, m2 = some j → j < w.heap.size) := ⟨fun j e => h.kl j (h.kk j (by simp [e])), fun j e => h.kl j (h.kk j (by simp [e])), fun j e => h.kl j (h.kk j (by simp [e]))⟩
theorem node_lv {c n : Nat} (h : c ≠ 0) : A.node.lv c n = A.lv c n := by
  show up2 A.lv 0 (A.la 0 + 1) true c n = A.lv c n
  exact up2_other _ _ (fun q => h q.1)
theorem ver_lv {c n : Nat} {t : ByteArray} {y x : Int} (h : c ≠ 1) : (A.ver t y x).lv c n = A.lv c n := by
  show up2 A.lv 1 (A.la 1 + 1) true c n = A.lv c n
  exact up2_other _ _ (fun q => h q.1)
theorem txn_lv {c n : Nat} (h : c ≠ 2) : A.txn.lv c n = A.lv c n := by
  show up2 A.lv 2 (A.la 2 + 1) true c n = A.lv c n
  exact up2_other _ _ (fun q => h q.1)
theorem Sm.node (h : Sm w K sb d g m0 m1 m2 T N m F own pl k1 A) (hF : Fr K w w') (hA : Aw w' d g T' N' m' F') {c0 c1 : Nat} (hpc : Plc (lvk A.node) A.node.va T' N' own' (plN A pl c0 c1))
    (hst : Sb w' sb d (A.la 0 + 1) (some b) (A.la 1) m1 (A.la 2) m2) (hp : Mp w' (some b) (fOf (A.node.lv 0) (ndV (plN A pl c0 c1))) (A.la 0 + 1) kq) (k1' : Mp w' m1 (fOf (A.lv 1) (vrV pl A.tx)) (A.la 1) k1) (k2' : ∃ k, Mp w' m2 (fOf (A.lv 2) (txV pl)) (A.la 2) k)
    (hb : m0 = some b ∨ m0 = none ∧ w.heap.size ≤ b) : Sm w' (fun j => K j ∨ j = b) sb d g (some b) m1 m2 T' N' m' F' own' (plN A pl c0 c1) k1 A.node := by
  obtain ⟨q2, k2'⟩ := k2'
  obtain ⟨t0, t1, t2⟩ := h.lt0
  refine ⟨hA, ?_, ⟨kq, ?_⟩, ?_, ⟨q2, ?_⟩, Stt.node_ok h.ok, hpc, fun l h1 h2 => h.ct l h1 (fun n hn => by have := h2 n hn; rw [← up2_other A.lv true (k := 0) (n := A.la 0 + 1) (k' := 1) (n' := n) (fun q => by omega)]; exact this), h.tab.fr hF h.k0, ?_, fun j hj => ?_, fun j hj => ?_, fun j e => ?_, h.a2⟩
  · show Sb w' sb d (up1 A.la 0 (A.la 0 + 1) 0) (some b) (up1 A.la 0 (A.la 0 + 1) 1) m1 (up1 A.la 0 (A.la 0 + 1) 2) m2
    rw [up1_same, up1_other _ _ (by decide), up1_other _ _ (by decide)]; exact hst
  · show Mp w' (some b) _ (up1 A.la 0 (A.la 0 + 1) 0) kq
    rw [up1_same]; exact hp
  · show Mp w' m1 (fOf (A.node.lv 1) (vrV (plN A pl c0 c1) A.tx)) (up1 A.la 0 (A.la 0 + 1) 1) k1
    rw [up1_other _ _ (by decide)]
    refine k1'.eqv (fOf_congr (fun n => node_lv (by decide)) (fun n => ?_))
    unfold vrV plN
    rw [up2_other _ _ (fun q => by omega), up2_other _ _ (fun q => by omega), up2_other _ _ (fun q => by omega), up2_other _ _ (fun q => by omega), up2_other _ _ (fun q => by omega), up2_other _ _ (fun q => by omega)]
  · show Mp w' m2 (fOf (A.node.lv 2) (txV (plN A pl c0 c1))) (up1 A.la 0 (A.la 0 + 1) 2) q2
    rw [up1_other _ _ (by decide)]
    refine k2'.eqv (fOf_congr (fun n => node_lv (by decide)) (fun n => ?_))
    unfold txV plN
    rw [up2_other _ _ (fun q => by omega), up2_other _ _ (fun q => by omega)]
  · rintro (e | e)
    · exact h.k0 e
    · rcases hb with q | ⟨_, q⟩
      · have := h.kk b (by simp [q]); rw [← e] at this; exact h.k0 this
      · have := h.tab.1; omega
  · rcases hj with e | e | e | e | e | e
    · exact .inl (h.kk j (by simp [e]))
    · exact .inl (h.kk j (by simp [e]))
    · exact .inl (h.kk j (by simp [e]))
    · right; cases e; rfl
    · exact .inl (h.kk j (by simp [e]))
    · exact .inl (h.kk j (by simp [e]))
  · rcases hj with e | e
    · exact Nat.lt_of_lt_of_le (h.kl j e) hF.size
    · rw [e]; exact hp.lt rfl
  · cases e
    rcases hb with q | ⟨_, q⟩
    · exact h.a1 b q
    · exact ⟨fun e => by have := t1 b e; omega, fun e => by have := t2 b e; omega⟩
theorem ct_add {k1 : Nat} {L : Nat → Bool} {nn : Nat} (h : ∀ l : List Nat, l.Nodup → (∀ n ∈ l, L n = true) → l.length ≤ k1) : ∀ l : List Nat, l.Nodup → (∀ n ∈ l, L n = true ∨ n = nn) → l.length ≤ k1 + 1 := by
  intro l h1 h2
  have := h (l.erase nn) (h1.erase _) (fun n hn => by
    rw [h1.mem_erase_iff] at hn
    exact (h2 n hn.2).resolve_right hn.1)
  have := List.length_erase_of_mem (a := nn) (l := l)
  by_cases q : nn ∈ l
  · have := this q; omega
  · rw [List.erase_of_not_mem q] at *; omega
theorem ct_del {k1 : Nat} {L : Nat → Bool} {nn : Nat} (h : ∀ l : List Nat, l.Nodup → (∀ n ∈ l, L n = true) → l.length ≤ k1) (hn : L nn = true) : ∀ l : List Nat, l.Nodup → (∀ n ∈ l, L n = true ∧ n ≠ nn) → l.length ≤ k1 - 1 := by
  intro l h1 h2
  have := h (nn :: l) (List.nodup_cons.2 ⟨fun q => (h2 nn q).2 rfl, h1⟩) (fun n hn' => by
    rcases List.mem_cons.1 hn' with e | e
    · rw [e]; exact hn
    · exact (h2 n e).1)
  simp at this
  omega
theorem Sm.ver (h : Sm w K sb d g m0 m1 m2 T N m F own pl k1 A) (hF : Fr K w w') (hA : Aw w' d g T' N' m' F') {c0 c1 c2 : Nat} {t : ByteArray} {y x : Int} (hpc : Plc (lvk (A.ver t y x)) (A.ver t y x).va T' N' own' (plV A pl c0 c1 c2)) (hok : (A.ver t y x).ok)
    (hst : Sb w' sb d (A.la 0) m0 (A.la 1 + 1) (some b) (A.la 2) m2) (hp : Mp w' (some b) (fOf ((A.ver t y x).lv 1) (vrV (plV A pl c0 c1 c2) (A.ver t y x).tx)) (A.la 1 + 1) (k1 + 1)) (k0' : ∃ k, Mp w' m0 (fOf (A.lv 0) (ndV pl)) (A.la 0) k) (k2' : ∃ k, Mp w' m2 (fOf (A.lv 2) (txV pl)) (A.la 2) k)
    (hb : m1 = some b ∨ m1 = none ∧ w.heap.size ≤ b) : Sm w' (fun j => K j ∨ j = b) sb d g m0 (some b) m2 T' N' m' F' own' (plV A pl c0 c1 c2) (k1 + 1) (A.ver t y x) := by
  obtain ⟨q0, k0'⟩ := k0'
  obtain ⟨q2, k2'⟩ := k2'
  obtain ⟨t0, t1, t2⟩ := h.lt0
  refine ⟨hA, ?_, ⟨q0, ?_⟩, ?_, ⟨q2, ?_⟩, hok, hpc, fun l h1 h2 => ct_add (nn := A.la 1 + 1) h.ct l h1 (fun n hn => ?_), h.tab.fr hF h.k0, ?_, fun j hj => ?_, fun j hj => ?_, fun j e => ?_, fun j e => ?_⟩
  · show Sb w' sb d (up1 A.la 1 (A.la 1 + 1) 0) m0 (up1 A.la 1 (A.la 1 + 1) 1) (some b) (up1 A.la 1 (A.la 1 + 1) 2) m2
    rw [up1_same, up1_other _ _ (by decide), up1_other _ _ (by decide)]; exact hst
  · show Mp w' m0 (fOf ((A.ver t y x).lv 0) (ndV (plV A pl c0 c1 c2))) (up1 A.la 1 (A.la 1 + 1) 0) q0
    rw [up1_other _ _ (by decide)]
    refine k0'.eqv (fOf_congr (fun n => ver_lv (by decide)) (fun n => ?_))
    unfold ndV plV
    rw [up2_other _ _ (fun q => by omega), up2_other _ _ (fun q => by omega), up2_other _ _ (fun q => by omega), up2_other _ _ (fun q => by omega), up2_other _ _ (fun q => by omega), up2_other _ _ (fun q => by omega)]
  · show Mp w' (some b) _ (up1 A.la 1 (A.la 1 + 1) 1) (k1 + 1)
    rw [up1_same]; exact hp
  · show Mp w' m2 (fOf ((A.ver t y x).lv 2) (txV (plV A pl c0 c1 c2))) (up1 A.la 1 (A.la 1 + 1) 2) q2
    rw [up1_other _ _ (by decide)]
    refine k2'.eqv (fOf_congr (fun n => ver_lv (by decide)) (fun n => ?_))
    unfold txV plV
    rw [up2_other _ _ (fun q => by omega), up2_other _ _ (fun q => by omega), up2_other _ _ (fun q => by omega)]
  · have := h2 n hn
    by_cases e : n = A.la 1 + 1
    · exact .inr e
    · left
      rw [← up2_other A.lv true (k := 1) (n := A.la 1 + 1) (fun q => e q.2)]; exact this
  · rintro (e | e)
    · exact h.k0 e
    · rcases hb with q | ⟨_, q⟩
      · have := h.kk b (by simp [q]); rw [← e] at this; exact h.k0 this
      · have := h.tab.1; omega
  · rcases hj with e | e | e | e | e | e
    · exact .inl (h.kk j (by simp [e]))
    · exact .inl (h.kk j (by simp [e]))
    · exact .inl (h.kk j (by simp [e]))
    · exact .inl (h.kk j (by simp [e]))
    · right; cases e; rfl
    · exact .inl (h.kk j (by simp [e]))
  · rcases hj with e | e
    · exact Nat.lt_of_lt_of_le (h.kl j e) hF.size
    · rw [e]; exact hp.lt rfl
  · rcases hb with q | ⟨_, q⟩
    · have := h.a1 j e
      rw [q] at this
      exact this
    · refine ⟨fun e2 => ?_, (h.a1 j e).2⟩
      cases e2
      have := t0 b e; omega
  · cases e
    rcases hb with q | ⟨_, q⟩
    · exact h.a2 b q
    · exact fun e => by have := t2 b e; omega
theorem Sm.txn (h : Sm w K sb d g m0 m1 m2 T N m F own pl k1 A) (hF : Fr K w w') (hA : Aw w' d g T' N' m' F') {c0 : Nat} (hpc : Plc (lvk A.txn) A.txn.va T' N' own' (plT A pl c0))
    (hst : Sb w' sb d (A.la 0) m0 (A.la 1) m1 (A.la 2 + 1) (some b)) (hp : Mp w' (some b) (fOf (A.txn.lv 2) (txV (plT A pl c0))) (A.la 2 + 1) kq) (k0' : ∃ k, Mp w' m0 (fOf (A.lv 0) (ndV pl)) (A.la 0) k) (k1' : Mp w' m1 (fOf (A.lv 1) (vrV pl A.tx)) (A.la 1) k1)
    (hb : m2 = some b ∨ m2 = none ∧ w.heap.size ≤ b) : Sm w' (fun j => K j ∨ j = b) sb d g m0 m1 (some b) T' N' m' F' own' (plT A pl c0) k1 A.txn := by
  obtain ⟨q0, k0'⟩ := k0'
  obtain ⟨t0, t1, t2⟩ := h.lt0
  refine ⟨hA, ?_, ⟨q0, ?_⟩, ?_, ⟨kq, ?_⟩, Stt.txn_ok h.ok, hpc, fun l h1 h2 => h.ct l h1 (fun n hn => by have := h2 n hn; rw [← up2_other A.lv true (k := 2) (n := A.la 2 + 1) (k' := 1) (n' := n) (fun q => by omega)]; exact this), h.tab.fr hF h.k0, ?_, fun j hj => ?_, fun j hj => ?_, fun j e => ?_, fun j e => ?_⟩
  · show Sb w' sb d (up1 A.la 2 (A.la 2 + 1) 0) m0 (up1 A.la 2 (A.la 2 + 1) 1) m1 (up1 A.la 2 (A.la 2 + 1) 2) (some b)
    rw [up1_same, up1_other _ _ (by decide), up1_other _ _ (by decide)]; exact hst
  · show Mp w' m0 (fOf (A.txn.lv 0) (ndV (plT A pl c0))) (up1 A.la 2 (A.la 2 + 1) 0) q0
    rw [up1_other _ _ (by decide)]
    refine k0'.eqv (fOf_congr (fun n => txn_lv (by decide)) (fun n => ?_))
    unfold ndV plT
    rw [up2_other _ _ (fun q => by omega), up2_other _ _ (fun q => by omega)]
  · show Mp w' m1 (fOf (A.txn.lv 1) (vrV (plT A pl c0) A.tx)) (up1 A.la 2 (A.la 2 + 1) 1) k1
    rw [up1_other _ _ (by decide)]
    refine k1'.eqv (fOf_congr (fun n => txn_lv (by decide)) (fun n => ?_))
    unfold vrV plT
    rw [up2_other _ _ (fun q => by omega), up2_other _ _ (fun q => by omega), up2_other _ _ (fun q => by omega)]
  · show Mp w' (some b) _ (up1 A.la 2 (A.la 2 + 1) 2) kq
    rw [up1_same]; exact hp
  · rintro (e | e)
    · exact h.k0 e
    · rcases hb with q | ⟨_, q⟩
      · have := h.kk b (by simp [q]); rw [← e] at this; exact h.k0 this
      · have := h.tab.1; omega
  · rcases hj with e | e | e | e | e | e
    · exact .inl (h.kk j (by simp [e]))
    · exact .inl (h.kk j (by simp [e]))
    · exact .inl (h.kk j (by simp [e]))
    · exact .inl (h.kk j (by simp [e]))
    · exact .inl (h.kk j (by simp [e]))
    · right; cases e; rfl
  · rcases hj with e | e
    · exact Nat.lt_of_lt_of_le (h.kl j e) hF.size
    · rw [e]; exact hp.lt rfl
  · rcases hb with q | ⟨_, q⟩
    · have := h.a1 j e
      rw [q] at this
      exact this
    · refine ⟨(h.a1 j e).1, fun e2 => ?_⟩
      cases e2
      have := t0 b e; omega
  · rcases hb with q | ⟨_, q⟩
    · have := h.a2 j e
      rw [q] at this
      exact this
    · intro e2
      cases e2
      have := t1 b e; omega
end
end Go.Proofs.YtfhcphgjaobnoaaDoor
