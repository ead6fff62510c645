/-
  VsH: Layer 15: what SweepKeeps and SweepBetween go through: an operation to its end, the chains they make, the store they look at.
  VsI: Layer 15: steps of SweepKeeps and SweepBetween.
  VsL: Layer 15: gaps that come in, opened; what SweepBetween's steps leave.
-/
import Derived.Test.YtfhcphgjaobnoaaDoorVtF
import Derived.Test.YtfhcphgjaobnoaaDoorVtD
set_option linter.unusedVariables false
set_option linter.unusedSimpArgs false
namespace Go.Proofs.YtfhcphgjaobnoaaDoor

section
open Go.RowKit Go.Maps

/-- What is left when an operation is done. -/
def DoneR (w w' : World) (K Q : Nat → Prop) (sb d z M B ob : Nat) (mark : Int) (A : Stt) (u : Nat) (xs : List Int) : Prop :=
  ∃ A' G K', Sws mark A xs A' G ∧ 3 * G ≤ u ∧ A'.la = A.la ∧ Rp w' K' sb d z (M + 30000 * xs.length) A' (u - 3 * G) ∧ Opm w' B Q ob (some ⟨sb, 0, none⟩) [] mark G true ∧ (∀ j, j < w.heap.size → (K' j ↔ K j)) ∧ Fr (fun j => K j ∨ Q j) w w' ∧ ∀ j, Q j → ¬ K' j
section
variable {w w' wr : World} {K Q : Nat → Prop} {sb d z M u B ob g : Nat} {A : Stt} {mark n : Int} {xs : List Int} {l : List Nat}
theorem done_all (h : Rp w K sb d z M A u) (hO : Opm w B Q ob (some ⟨sb, 0, none⟩) xs mark 0 false) (hB : 0 < B) (hap : ∀ j, Q j → ¬ K j) (hxs : ∀ x ∈ xs, i64ok x) (hla : A.la 1 ≤ 5000) (hlen : xs.length ≤ 1000) (hM : M < 3000000000000000000) (hu : u ≤ 1000000) {most : Int} (hm : (xs.length : Int) + 1 ≤ most) (hm9 : most ≤ 1000000000000) :
    Calls Tryd.prog 19 #[.pointer (some ⟨ob, 0, none⟩), .int .i64 most] w fun e w' => ∃ c : Nat, e = .returned (.int .i64 (c : Int)) ∧ 0 < c ∧ c ≤ 1000 ∧ DoneR w w' K Q sb d z M B ob mark A u xs := by
  rcases Nat.eq_zero_or_pos xs.length with q | q
  · have e : xs = [] := List.length_eq_zero_iff.1 q
    subst e
    refine (done_zero hO (by omega) (by simp at hm; omega) hm9).mono ?_
    rintro e w1 ⟨rfl, h1, h2⟩
    refine ⟨1, rfl, by omega, by omega, A, 0, K, ⟨rfl, rfl⟩, by omega, rfl, (h.keep h2 (fun j hj e => hap j e hj) (fun e => by have := (hO.ql 0 e).1; omega)).up (by omega), h1, fun _ _ => Iff.rfl, h2.mono (fun j _ e => .inr e), hap⟩
  · refine (done_any h hO hB hap hxs q hla hlen hM hu (by omega) hm9).mono ?_
    rintro e w1 ⟨rfl, r⟩
    exact ⟨xs.length, rfl, q, hlen, r⟩

/-! ### rows of chains -/
def flatC (cs : List ChR) : List Value := cs.flatMap ChR.cells
theorem flatC_len : ∀ cs : List ChR, (flatC cs).length = cs.length * 2
  | [] => rfl
  | c :: cs => by
    have := flatC_len cs
    unfold flatC at this ⊢
    simp only [List.flatMap_cons, List.length_append, this, List.length_cons]
    show 2 + _ = _
    omega
theorem flatC_at : ∀ (cs : List ChR) (i j : Nat) (c : ChR) (v : Value), cs[i]? = some c → c.cells[j]? = some v → (flatC cs)[i * 2 + j]? = some v
  | [], i, j, c, v, h, _ => by simp at h
  | c0 :: cs, 0, j, c, v, h, hv => by
    simp at h; subst h
    have hj : j < 2 := by
      have := (List.getElem?_eq_some_iff.1 hv).1
      exact this
    show (c0.cells ++ flatC cs)[0 * 2 + j]? = _
    rw [List.getElem?_append_left (by show 0 * 2 + j < 2; omega), show 0 * 2 + j = j by omega]
    exact hv
  | c0 :: cs, i + 1, j, c, v, h, hv => by
    show (c0.cells ++ flatC cs)[(i + 1) * 2 + j]? = _
    rw [List.getElem?_append_right (by show 2 ≤ _; omega), show (i + 1) * 2 + j - c0.cells.length = i * 2 + j by show _ - 2 = _; omega]
    exact flatC_at cs i j c v (by simpa using h) hv
theorem flatC_snoc (cs : List ChR) (c : ChR) : flatC (cs ++ [c]) = flatC cs ++ c.cells := by unfold flatC; simp
/-- A chain that ordered has made. -/
structure Cmd (w : World) (B : Nat) (c : ChR) : Prop where
  b : Ur w B (.slice c.bo c.lb c.cb) c.bs
  e : Ur w B (.slice c.eo c.le c.ce) c.es
  o : OrdE c.bs c.es c.bs.length
  l : c.bs.length ≤ 30
theorem Ur.sq {ao : Option Addr} {len cap : Nat} {xs : List Int} (h : Ur w B (.slice ao len cap) xs) : Seq 1 uh w ao len cap xs := by
  obtain ⟨a, c, e, hs⟩ := h.seq
  injection e with e1 e2 e3
  subst e1 e2 e3
  exact hs
theorem Cmd.ok {c : ChR} (h : Cmd w B c) : c.ok w := ⟨h.b.sq, h.e.sq, h.o.b0, h.o.e0⟩
theorem Cmd.fr {c : ChR} {G : Nat → Prop} (h : Cmd w B c) (hF : Fr G w w') (hG : ∀ j cs fz, w.heap[j]? = some (.cells cs 54 fz) → ¬ G j) : Cmd w' B c :=
  ⟨h.b.fr hF (fun j e => by obtain ⟨cs, fz, q⟩ := Go.Lib.ownsRow_kind h.b j e; exact hG j cs fz q), h.e.fr hF (fun j e => by obtain ⟨cs, fz, q⟩ := Go.Lib.ownsRow_kind h.e j e; exact hG j cs fz q), h.o, h.l⟩
theorem ur_down {B' : Nat} {v : Value} {xs : List Int} (h : Ur w B v xs) (hb : B' ≤ B) : Ur w B' v xs := by
  refine ⟨h.1, ?_⟩
  rcases h.2 with q | ⟨g, cap, cur, q1, q2, q3⟩
  · exact .inl q
  · exact .inr ⟨g, cap, cur, q1, by omega, q3⟩
theorem crow_seq {v : Value} {n : Nat} {cs : List ChR} (h : w.ownsRow B 48 2 v n (flatC cs)) (hn : cs.length = n) : ∃ ao cap, v = .slice ao n cap ∧ Seq 2 ChR.cells w ao n cap cs := by
  rcases h.2 with ⟨rfl, h0⟩ | ⟨g, cap, cur, rfl, hg, hh, hc, hm, hs, ht⟩
  · exact ⟨none, 0, by rw [h0], ⟨hn, by omega, Nat.zero_le _, fun q => by omega⟩⟩
  · refine ⟨_, cap, rfl, ⟨hn, hc, hm, fun _ => ⟨g, 0, rfl, (Array.getElem?_eq_some_iff.1 hh).1, fun i x hi j v hv => ?_⟩⟩⟩
    have e := flatC_at cs i j x v hi hv
    have hi2 : i < cs.length := (List.getElem?_eq_some_iff.1 hi).1
    have hj : j < 2 := (List.getElem?_eq_some_iff.1 hv).1
    rw [Go.Joins.cell_of_block hh, ← Array.getElem?_toList, Nat.zero_add]
    rw [← ht, List.getElem?_take, if_pos (by omega)] at e
    exact e
theorem infoCh : (Tryd.prog.info? 48).map (fun i => (i.zero, i.size, i.bytes)) = some (some (.agg #[.slice none 0 0, .slice none 0 0]), 2, 48) := by kernel_rfl

/-! ### the store that is looked at, and the row of its nodes -/
structure Kst (w0 wr : World) (K : Nat → Prop) (sb d M : Nat) (A : Stt) (u : Nat) (nv : Value) (m : Nat) : Prop where
  p : Rp wr K sb d 4000 M A u
  kb : ∀ j, K j → w0.heap.size ≤ j
  bl : Below w0.heap.size w0 wr
  n : Hr wr w0.heap.size nv (List.range' 1 m)
  na : ∀ j, nv.ownBlock = some j → ¬ K j
/-- A row beside them. -/
structure Wsr (w0 wr : World) (K : Nat → Prop) (nv v : Value) (l : List Nat) : Prop where
  h : Hr wr w0.heap.size v l
  a : ∀ j, v.ownBlock = some j → ¬ K j
  b : ∀ j, v.ownBlock = some j → nv.ownBlock ≠ some j
variable {w0 w2 : World} {M' u' m : Nat} {A' : Stt} {nv v : Value}
theorem Kst.aft (h : Kst w0 wr K sb d M A u nv m) (ha : Aft wr w2 K sb d 4000 M' A' u') : ∃ K', Kst w0 w2 K' sb d M' A' u' nv m ∧ (∀ j, j < wr.heap.size → (K' j ↔ K j)) ∧ Fr K wr w2 := by
  obtain ⟨K', hr, hk, hF⟩ := ha
  refine ⟨K', ⟨hr, fun j hj => ?_, h.bl.trans (hF.to (fun j hj e => ?_) h.bl.size), h.n.fr hF h.na, fun j e q => h.na j e ((hk j (World.ownsRow.lt h.n j e).2).1 q)⟩, hk, hF⟩
  · rcases Nat.lt_or_ge j wr.heap.size with q | q
    · exact h.kb j ((hk j q).1 hj)
    · have := h.bl.size; omega
  · have := h.kb j e; omega
theorem Wsr.aft {K' : Nat → Prop} (h : Wsr w0 wr K nv v l) (hk : ∀ j, j < wr.heap.size → (K' j ↔ K j)) (hF : Fr K wr w2) : Wsr w0 w2 K' nv v l :=
  ⟨h.h.fr hF h.a, fun j e q => h.a j e ((hk j (World.ownsRow.lt h.h j e).2).1 q), h.b⟩
theorem Kst.keep {G : Nat → Prop} (h : Kst w0 wr K sb d M A u nv m) (hF : Fr G wr w2) (hG : ∀ j, K j → ¬ G j) (hn : ∀ j, nv.ownBlock = some j → ¬ G j) (h0 : ∀ j, G j → w0.heap.size ≤ j) (hw : 0 < w0.heap.size) : Kst w0 w2 K sb d M A u nv m :=
  ⟨h.p.keep hF hG (fun e => by have := h0 0 e; omega), h.kb, h.bl.trans (hF.to (fun j hj e => by have := h0 j e; omega) h.bl.size), h.n.fr hF hn, h.na⟩
theorem Kst.up (h : Kst w0 wr K sb d M A u nv m) (hM : M ≤ M') : Kst w0 wr K sb d M' A u nv m := ⟨h.p.up hM, h.kb, h.bl, h.n, h.na⟩
/-- What is seen of node k / T at the mark and k % T later. -/
def vals (A : Stt) (L : Nat → List Nat) (mark : Int) (T k : Nat) : Nat := fs (mark + ((k % T : Nat) : Int)) ((L (k / T + 1)).map (vp A))
theorem range_map_snoc (f : Nat → Nat) (k : Nat) : (List.range (k + 1)).map f = (List.range k).map f ++ [f k] := by rw [List.range_succ]; simp
end
end

section
open Go.RowKit Go.Maps

structure GpR where
  o : Option Addr
  l : Nat
  c : Nat
  xs : List Int
def GpR.cells (g : GpR) : List Value := [.slice g.o g.l g.c]
theorem seq_g {w : World} {ao : Option Addr} {len cap : Nat} {gs : List GpR} (h : Seq 1 GpR.cells w ao len cap gs) {k : Nat} (hk : k < len) : ∃ b off g, ao = some ⟨b, off, none⟩ ∧ b < w.heap.size ∧ gs[k]? = some g ∧ w.cell? ⟨b, off + k, none⟩ = some (.slice g.o g.l g.c) := by
  obtain ⟨b, off, e, hl, hc⟩ := h.2.2.2 (by omega)
  obtain ⟨c, hcc⟩ := some_at h.1 hk
  exact ⟨b, off, c, e, hl, hcc, by have := hc k c hcc 0 _ rfl; simpa using this⟩
theorem ld1_len (bs es : List Int) : ∀ k, (ld1 bs es k).length ≤ k
  | 0 => Nat.le_refl _
  | k + 1 => by
    have := ld1_len bs es k
    rw [ld1]
    split
    · simp; omega
    · omega
theorem range_getD {m p : Nat} (h : p < m) : (List.range' 1 m).getD p 0 = p + 1 := by
  rw [List.getD_eq_getElem?_getD, List.getElem?_range' h]
  simp; omega
section
variable {w w1 w2 w0 wr : World} {K Q J : Nat → Prop} {sb d z M M' u u' B ob g m rb : Nat} {A A' : Stt} {mark n st : Int} {xs : List Int} {l : List Nat} {nv v : Value} {L : Nat → List Nat} {W : Nat → List (Int × Int)} {cs : List ChR}
theorem hr_down {B' : Nat} {l : List Nat} (h : Hr w B v l) (hb : B' ≤ B) : Hr w B' v l := by
  refine ⟨h.1, ?_⟩
  rcases h.2 with q | ⟨g, cap, cur, q1, q2, q3⟩
  · exact .inl q
  · exact .inr ⟨g, cap, cur, q1, by omega, q3⟩
theorem LaidS.kst (S : LaidS wr w2 cs sb d rb v K J M A u st L W m) (hb : Below w0.heap.size w0 wr) : Kst w0 w2 K sb d M A u v m := by
  have hs := hb.size
  exact ⟨S.l.p, fun j hj => by have := S.l.kb j (.inl hj); omega, hb.trans ⟨S.l.bl.os, S.l.bl.tape, S.l.bl.output, S.l.bl.size, fun j hj => S.l.bl.block j (by omega)⟩, hr_down S.h hs, fun j e q => S.a j e (.inl q)⟩
theorem LaidS.ord (S : LaidS wr w2 cs sb d rb v K J M A u st L W m) (hc : ∀ c ∈ cs, Cmd w B c) (hm : m ≤ cs.length) : ∀ n, 1 ≤ n → n ≤ m → OrdW (W n) ∧ (L n).length ≤ 30 := fun n h1 h2 => by
  have e := S.wd n h1 h2
  obtain ⟨c, hcc⟩ := some_at (l := cs) rfl (i := n - 1) (by omega)
  unfold wOf at e
  rw [hcc] at e
  have k := hc c (List.mem_of_getElem? hcc)
  have hl := k.l
  have e2 : W n = ld1 c.bs c.es c.bs.length := by rw [e]; show ld1 _ _ (min c.bs.length 30) = _; rw [show min c.bs.length 30 = c.bs.length by omega]
  refine ⟨by rw [e2]; exact k.o.w, ?_⟩
  have w1 := S.n.wd n h1 h2
  have w2 : (L n).length = (W n).length := by rw [← w1, List.length_map]
  rw [w2, e2]
  exact Nat.le_trans (ld1_len _ _ _) hl
theorem Wok.take {W : List (Int × Int)} (h : Wok W) (k : Nat) : Wok (W.take k) := fun p hp => h p (List.mem_of_mem_take hp)
/-- A call of sees, of a node of the row. -/
theorem ksees (h : Kst w0 wr K sb d M A u nv m) (N : Nds A m L W) {p : Nat} (hp : p < m) (hw : Wok (W (p + 1))) (hl : (L (p + 1)).length ≤ 1000) {at_ : Int} (ha : 0 ≤ at_ ∧ at_ < 1099511627776) (hm : m ≤ 1000) (hM : M < 3000000000000000000) :
    Calls Tryd.prog 24 #[.pointer (some ⟨sb, 0, none⟩), .int .i64 ((p + 1 : Nat) : Int), .int .i64 at_] wr fun e w' => e = .returned (.int .i64 (fs at_ ((L (p + 1)).map (vp A)) : Nat)) ∧ Aft wr w' K sb d 4000 (M + 3002) A u := by
  refine (lsees_any h.p (N.fr (p + 1) (by omega) (by omega)) (by rw [N.wd (p + 1) (by omega) (by omega)]; exact hw) ha (by omega) (by omega) (by omega)).mono ?_
  rintro e w' ⟨rfl, K', a, b, c⟩
  exact ⟨rfl, K', a.up (by omega), b, c⟩
theorem vals_at (A : Stt) (L : Nat → List Nat) (mark : Int) {T p q : Nat} (hq : q < T) : vals A L mark T (T * p + q) = fs (mark + (q : Int)) ((L (p + 1)).map (vp A)) := by
  unfold vals
  rw [Nat.mul_add_mod, Nat.mod_eq_of_lt hq, Nat.mul_add_div (by omega), Nat.div_eq_of_lt hq, Nat.add_zero]
theorem Kst.below (h : Kst w0 wr K sb d M A u nv m) (hb : Below wr.heap.size wr w2) (hw : 0 < w0.heap.size) : Kst w0 w2 K sb d M A u nv m := h.keep (G := fun _ => False) (Fr.below hb) (fun _ _ => id) (fun _ _ => id) (fun j e => e.elim) hw
theorem Wsr.below (h : Wsr w0 wr K nv v l) (hb : Below wr.heap.size wr w2) : Wsr w0 w2 K nv v l := ⟨h.h.fr (Fr.below (F := fun _ => False) hb) (fun _ _ => id), h.a, h.b⟩
/-- A row and an operation to its end. -/
theorem Kst.done (h : Kst w0 wr K sb d M A u nv m) (hw : 0 < w0.heap.size) (hb : Below wr.heap.size wr w1) (hO : Opm w1 wr.heap.size Q ob (some ⟨sb, 0, none⟩) xs mark 0 false) (hD : DoneR w1 w2 K Q sb d 4000 M wr.heap.size ob mark A u xs) :
    ∃ A' G K', Sws mark A xs A' G ∧ A'.la = A.la ∧ 3 * G ≤ u ∧ Kst w0 w2 K' sb d (M + 30000 * xs.length) A' (u - 3 * G) nv m ∧ Opm w2 wr.heap.size Q ob (some ⟨sb, 0, none⟩) [] mark G true ∧ ∀ v l, Wsr w0 wr K nv v l → Wsr w0 w2 K' nv v l := by
  obtain ⟨A', G, K', s1, s2, s3, s4, s5, s6, s7, s8⟩ := hD
  have hsz := h.bl.size
  have hs1 := hb.size
  have k1 := h.below hb hw
  have out : ∀ v : Value, ∀ l, Hr wr w0.heap.size v l → (∀ j, v.ownBlock = some j → ¬ K j) → ∀ j, v.ownBlock = some j → ¬ (K j ∨ Q j) := fun v l hv hk j e q => by
    rcases q with q | q
    · exact hk j e q
    · have := (hO.ql j q).1
      have := (World.ownsRow.lt hv j e).2
      omega
  have nk : ∀ v : Value, ∀ l, Hr wr w0.heap.size v l → (∀ j, v.ownBlock = some j → ¬ K j) → ∀ j, v.ownBlock = some j → ¬ K' j := fun v l hv hk j e q => hk j e ((s6 j (by have := (World.ownsRow.lt hv j e).2; omega)).1 q)
  refine ⟨A', G, K', s1, s3, s2, ⟨s4, fun j hj => ?_, k1.bl.trans (s7.to (fun j hj e => ?_) (by omega)), k1.n.fr s7 (out nv _ h.n h.na), nk nv _ h.n h.na⟩, s5, fun v l hv => ⟨(hv.below hb).h.fr s7 (out v l hv.h hv.a), nk v l hv.h hv.a, hv.b⟩⟩
  · rcases Nat.lt_or_ge j w1.heap.size with q | q
    · exact h.kb j ((s6 j q).1 hj)
    · omega
  · rcases e with e | e
    · have := h.kb j e; omega
    · have := (hO.ql j e).1; omega
theorem Wsr.snoc {x4 : World} {v' : Value} {y : Nat} (h : Wsr w0 wr K nv v l) (hF : Fr (fun j => v.ownBlock = some j) wr x4) (hr : Hr x4 w0.heap.size v' (l ++ [y])) (hb : ∀ j, v'.ownBlock = some j → v.ownBlock = some j ∨ wr.heap.size ≤ j) (hk : ∀ j, K j → j < wr.heap.size) (hn : ∀ j, nv.ownBlock = some j → j < wr.heap.size) : Wsr w0 x4 K nv v' (l ++ [y]) := by
  refine ⟨hr, fun j e q => ?_, fun j e q => ?_⟩
  · rcases hb j e with z | z
    · exact h.a j z q
    · have := hk j q; omega
  · rcases hb j e with z | z
    · exact h.b j z q
    · have := hn j q; omega
theorem range_map_getD (f : Nat → Nat) {k n : Nat} (h : k < n) : ((List.range n).map f).getD k 0 = f k := by
  rw [List.getD_eq_getElem?_getD, List.getElem?_map, List.getElem?_range h]; rfl
theorem kp_all (mark : Int) (W : List (Int × Int)) : kp mark (W.take (kp mark W)) = (W.take (kp mark W)).length := by
  have := kp_le mark W
  rw [kp_take, List.length_take]; omega
theorem tkS_in {α : Type} {mark : Int} {F : Nat → List α} {i n : Nat} (h1 : 1 ≤ n) (h2 : n ≤ i) : tkS mark W F 1 i n = (F n).take (kp mark (W n)) := by unfold tkS; rw [if_pos (by omega)]
/-- Both sweeps: the first takes, the second takes nothing. -/
theorem keeps_both {i : Nat} {A1 A2 : Stt} {G1 G2 : Nat} (hok : A.ok) (N : Nds A i L W) (s1 : Sws mark A ((List.range' 1 i).map fun n : Nat => (n : Int)) A1 G1) (s2 : Sws mark A1 ((List.range' 1 i).map fun n : Nat => (n : Int)) A2 G2) : A2 = A1 ∧ G2 = 0 ∧ A1.ok ∧ Nds A1 i (tkS mark W L 1 i) (tkS mark W W 1 i) := by
  obtain ⟨ok1, N1⟩ := Nds.sws mark i 1 hok N (by omega) (by omega) s1
  obtain ⟨e1, e2⟩ := Nds.still mark i 1 N1 (fun n h1 h2 => by rw [tkS_in h1 h2]; exact kp_all mark (W n)) (by omega) (by omega) s2
  exact ⟨e1, e2, ok1, N1⟩
end
end

section
open Go.RowKit Go.ChangeShapes Go.WideShapes Go.ChangeAt

section
variable {H : Type} {enc : TypeId × Value → H} {W : World} {a : Option Addr} {len cap : Nat} {d : DataW H} {p : List MemPlace}
theorem cellsSlI : Tryd.prog.cellsOf 29 = 1 := by kernel_rfl
theorem open_gaps (h : DataW.Trod enc Tryd.prog W 0 (fun _ => true) true 46 (.slice a len cap) d p) : ∃ gs : List GpR, (∀ g ∈ gs, Seq 1 ih W g.o g.l g.c g.xs) ∧ Seq 1 GpR.cells W a len cap gs ∧ Long d len := by
  obtain ⟨gs, h1, h2, h3⟩ := open_seq GpR.cells (fun g : GpR => Seq 1 ih W g.o g.l g.c g.xs) Tryd.underlying46 cellsSlI (by decide) (fun _ _ => rfl) (fun m cs y hl hy => by
    rcases DataW.trod_slice Tryd.underlying29 hy with ⟨hcs, hdn⟩ | ⟨x, l, c, elems, rest, n, _, hcs, _⟩
    · subst hcs
      obtain ⟨xs, q1, q2, -⟩ := open_i64s (a := none) (len := 0) (cap := 0) (d := y.1) (p := y.2) ⟨m, hy⟩
      exact ⟨⟨none, 0, 0, xs⟩, q2, rfl⟩
    · subst hcs
      obtain ⟨xs, q1, q2, -⟩ := open_i64s (a := some x) (len := l) (cap := c) (d := y.1) (p := y.2) ⟨m, hy⟩
      exact ⟨⟨some x, l, c, xs⟩, q2, rfl⟩) h
  exact ⟨gs, h1, h2, h3⟩
end
open Go.Maps
/-- The nodes while a sweep goes: who is seen at the mark or later is always the same. -/
structure Bst (A : Stt) (m : Nat) (L : Nat → List Nat) (W : Nat → List (Int × Int)) (mark : Int) (f : Nat → Int → Nat) (b : Nat) : Prop where
  n : Nds A m L W
  rd : ∀ n, 1 ≤ n → n ≤ m → Rd mark (W n)
  wo : ∀ n, 1 ≤ n → n ≤ m → Wok (W n)
  ln : ∀ n, 1 ≤ n → n ≤ m → (L n).length ≤ b
  se : ∀ n, 1 ≤ n → n ≤ m → ∀ t, mark ≤ t → t < 190 → fs t ((L n).map (vp A)) = f n t
section
variable {A A' : Stt} {m b : Nat} {L : Nat → List Nat} {W : Nat → List (Int × Int)} {mark : Int} {f : Nat → Int → Nat}
theorem swpA_pr (mark : Int) (A : Stt) (n : Nat) (l : List Nat) (v : Nat) : pr (swpA mark A n l) v = pr A v := by
  have put23 : ∀ (y v : Nat), (A.put 4 y 0).va 2 v = A.va 2 v ∧ (A.put 4 y 0).va 3 v = A.va 3 v := fun y v => by
    constructor
    · show up2 A.va 4 y 0 2 v = _; rw [up2_other _ _ (fun q => by omega)]
    · show up2 A.va 4 y 0 3 v = _; rw [up2_other _ _ (fun q => by omega)]
  unfold swpA
  split
  · rfl
  · split
    · unfold pr
      rw [offs_va, (put23 _ v).1, (put23 _ v).2]
    · have e : ∀ c x, c ≠ 0 → (((offs (A.put 4 (l.getD 0 0) 0) (l.drop 1)).off 1 (l.getD 0 0)).put 0 n x).va c v = (A.put 4 (l.getD 0 0) 0).va c v := fun c x hc => by
        show up2 (offs (A.put 4 (l.getD 0 0) 0) (l.drop 1)).va 0 n x c v = _
        rw [up2_other _ _ (fun q => hc q.1), offs_va]
      unfold pr
      rw [e 2 _ (by decide), e 3 _ (by decide), (put23 _ v).1, (put23 _ v).2]
theorem Bst.swp (hok : A.ok) (h : Bst A m L W mark f b) (hm : mark < 1099511627776) {n : Nat} (h1 : 1 ≤ n) (h2 : n ≤ m) : Bst (swpA mark A n (L n)) m (up1 L n ((L n).take (kp mark (W n)))) (up1 W n ((W n).take (kp mark (W n)))) mark f b := by
  have evp : vp (swpA mark A n (L n)) = vp A := by funext v; unfold vp; rw [swpA_pr]
  have e6 : ((L n).map (vp A)).map (·.2) = W n := by rw [List.map_map, ← h.n.wd n h1 h2]; rfl
  refine ⟨h.n.swp hok h1 h2 mark, fun i q1 q2 => ?_, fun i q1 q2 => ?_, fun i q1 q2 => ?_, fun i q1 q2 t t1 t2 => ?_⟩
  · by_cases e : i = n
    · subst e; rw [up1_same]; exact (h.rd i q1 q2).sublist (List.take_sublist _ _)
    · rw [up1_other _ _ e]; exact h.rd i q1 q2
  · by_cases e : i = n
    · subst e; rw [up1_same]; exact Wok.take (h.wo i q1 q2) _
    · rw [up1_other _ _ e]; exact h.wo i q1 q2
  · by_cases e : i = n
    · subst e; rw [up1_same, List.length_take]; have := h.ln i q1 q2; omega
    · rw [up1_other _ _ e]; exact h.ln i q1 q2
  · rw [evp]
    by_cases e : i = n
    · subst e
      rw [up1_same, List.map_take, ← h.se i q1 q2 t t1 t2]
      have := fs_take t1 hm ((L i).map (vp A)) (by rw [e6]; exact h.rd i q1 q2)
      rw [e6] at this
      exact this
    · rw [up1_other _ _ e]; exact h.se i q1 q2 t t1 t2
theorem Bst.push (hok : A.ok) (h : Bst A m L W mark f b) (hm : mark < 200) {n : Nat} (h1 : 1 ≤ n) (h2 : n ≤ m) {t : ByteArray} {x : Int} (hx : 200 ≤ x ∧ x < 1099511627776) : Bst (A.lead n t x 1099511627776 (A.va 0 n)) m (up1 L n ((A.la 1 + 1) :: L n)) (up1 W n ((x, 1099511627776) :: W n)) mark f (b + 1) := by
  have new : ∀ k, 1 ≤ k → k ≤ m → ∀ v ∈ L k, v ≠ A.la 1 + 1 := fun k q1 q2 v hv e => by
    have := (hok.n1 1 v ((h.n.fr k q1 q2).ch.live v hv)).2
    omega
  have va : ∀ c v, c = 2 ∨ c = 3 → v ≠ A.la 1 + 1 → (A.lead n t x 1099511627776 (A.va 0 n)).va c v = A.va c v := fun c v hc hv => by
    show up2 (up2 (up2 (up2 (up2 A.va 2 (A.la 1 + 1) x) 3 (A.la 1 + 1) 1099511627776) 4 (A.la 1 + 1) (A.va 0 n)) 0 n ((A.la 1 + 1 : Nat) : Int)) 3 (A.la 1 + 1) 1099511627776 c v = _
    rw [up2_other _ _ (fun q => hv q.2), up2_other _ _ (fun q => by omega), up2_other _ _ (fun q => hv q.2), up2_other _ _ (fun q => hv q.2), up2_other _ _ (fun q => hv q.2)]
  have evp : ∀ k, 1 ≤ k → k ≤ m → (L k).map (vp (A.lead n t x 1099511627776 (A.va 0 n))) = (L k).map (vp A) := fun k q1 q2 => List.map_congr_left fun v hv => by
    unfold vp pr
    rw [va 2 v (.inl rfl) (new k q1 q2 v hv), va 3 v (.inr rfl) (new k q1 q2 v hv)]
  have hnd := h.n.lead hok h1 h2 (t := t) (b := x) (e := 1099511627776)
  refine ⟨hnd, fun i q1 q2 => ?_, fun i q1 q2 => ?_, fun i q1 q2 => ?_, fun i q1 q2 s s1 s2 => ?_⟩
  · by_cases e : i = n
    · subst e; rw [up1_same]; exact List.pairwise_cons.2 ⟨fun q _ z => by simp at z; omega, h.rd i q1 q2⟩
    · rw [up1_other _ _ e]; exact h.rd i q1 q2
  · by_cases e : i = n
    · subst e; rw [up1_same]
      intro p hp
      rcases List.mem_cons.1 hp with q | q
      · subst q; exact ⟨by show 0 ≤ x; omega, by show x < _; omega, by show (0 : Int) ≤ 1099511627776; decide, by show (1099511627776 : Int) ≤ 1099511627776; decide⟩
      · exact h.wo i q1 q2 p q
    · rw [up1_other _ _ e]; exact h.wo i q1 q2
  · by_cases e : i = n
    · subst e; rw [up1_same]; have := h.ln i q1 q2; simp; omega
    · rw [up1_other _ _ e]; have := h.ln i q1 q2; omega
  · by_cases e : i = n
    · subst e
      have hw := hnd.wd i q1 q2
      rw [up1_same, up1_same] at hw
      have hw2 : pr (A.lead i t x 1099511627776 (A.va 0 i)) (A.la 1 + 1) = (x, 1099511627776) := by
        rw [List.map_cons] at hw
        injection hw
      rw [up1_same, List.map_cons, evp i q1 q2]
      show (if (pr (A.lead i t x 1099511627776 (A.va 0 i)) (A.la 1 + 1)).1 ≤ s ∧ s < (pr (A.lead i t x 1099511627776 (A.va 0 i)) (A.la 1 + 1)).2 then _ else fs s ((L i).map (vp A))) = _
      rw [hw2, if_neg (fun q => by have := q.1; simp at this; omega)]
      exact h.se i q1 q2 s s1 s2
    · rw [up1_other _ _ e, evp i q1 q2]; exact h.se i q1 q2 s s1 s2
end
section
variable {w0 wr w2 : World} {K K' Q : Nat → Prop} {sb d M M' u u' m B ob g : Nat} {A A' : Stt} {nv v : Value} {l : List Nat} {mark : Int} {left : List Int} {dn : Bool}
/-- What a step of an operation leaves of the rows. -/
theorem Kst.ostep (h : Kst w0 wr K sb d M A u nv m) (hB : w0.heap.size ≤ B) (hq : ∀ j, Q j → B ≤ j) (hn : ∀ j, nv.ownBlock = some j → ¬ Q j) (hr : Rp w2 K' sb d 4000 M' A' u') (hk : ∀ j, j < wr.heap.size → (K' j ↔ K j)) (hF : Fr (fun j => K j ∨ Q j) wr w2) : Kst w0 w2 K' sb d M' A' u' nv m := by
  have hsz := h.bl.size
  refine ⟨hr, fun j hj => ?_, h.bl.trans (hF.to (fun j hj e => ?_) hsz), h.n.fr hF (fun j e q => by rcases q with q | q; exact h.na j e q; exact hn j e q), fun j e q => h.na j e ((hk j (World.ownsRow.lt h.n j e).2).1 q)⟩
  · rcases Nat.lt_or_ge j wr.heap.size with q | q
    · exact h.kb j ((hk j q).1 hj)
    · omega
  · rcases e with e | e
    · have := h.kb j e; omega
    · have := hq j e; omega
theorem Wsr.ostep (h : Wsr w0 wr K nv v l) (hv : ∀ j, v.ownBlock = some j → ¬ Q j) (hk : ∀ j, j < wr.heap.size → (K' j ↔ K j)) (hF : Fr (fun j => K j ∨ Q j) wr w2) : Wsr w0 w2 K' nv v l :=
  ⟨h.h.fr hF (fun j e q => by rcases q with q | q; exact h.a j e q; exact hv j e q), fun j e q => h.a j e ((hk j (World.ownsRow.lt h.h j e).2).1 q), h.b⟩
theorem opm_aft {po : Option Addr} (h : Opm wr B Q ob po left mark g dn) (hap : ∀ j, Q j → ¬ K j) (hk : ∀ j, j < wr.heap.size → (K' j ↔ K j)) (hF : Fr K wr w2) : Opm w2 B Q ob po left mark g dn ∧ ∀ j, Q j → ¬ K' j :=
  ⟨h.keep hF hap, fun j hj q => hap j hj ((hk j (h.ql j hj).2).1 q)⟩
end
end
end Go.Proofs.YtfhcphgjaobnoaaDoor
