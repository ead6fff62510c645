/-
  Two chains beside one another: the plain side of StoreApart.
-/
import Derived.Test.YtohgjpljobmpaaaDoorTaL
import Derived.Test.YtohgjpljobmpaaaDoorCOpen
set_option linter.unusedVariables false
set_option linter.unusedSimpArgs false
namespace Go.Proofs.YtohgjpljobmpaaaDoor
open Go.RowKit Go.Maps

theorem cellsStr9 : Tryd.prog.cellsOf 9 = 1 := by kernel_rfl
abbrev sv (s : ByteArray) : List Value := [.string s]
theorem open_strs {H : Type} {enc : TypeId × Value → H} {W : World} {a : Option Addr} {len cap : Nat} {d : DataW H} {p : List MemPlace} (h : DataW.Trod enc Tryd.prog W 0 (fun _ => true) true 22 (.slice a len cap) d p) :
    ∃ xs : List ByteArray, (∀ x ∈ xs, x.size ≤ maxLen) ∧ Seq 1 sv W a len cap xs ∧ Long d len :=
  open_seq sv (fun s => s.size ≤ maxLen) Tryd.underlying22 cellsStr9 (by decide) (fun _ _ => rfl) (fun m cs y hl hy => by
    match cs, hl with
    | [c], _ =>
      obtain ⟨k, q, _, wf⟩ := DataW.trod_string Tryd.underlying9 hy
      simp only [List.cons.injEq, and_true] at q
      subst q
      exact ⟨k, wf, rfl⟩) h

section
variable {A : Stt}
theorem Ch.ver (hok : A.ok) {l : List Nat} {y x b : Int} {t : ByteArray} (hc : Ch A y l) (hy : y ≤ A.la 1) : Ch (A.ver t b x) y l := by
  refine hc.congr hok (fun m hm => ?_) (fun k hk hl => ?_)
  · have h1 := hc.live m hm
    have h2 := hc.le hok m hm
    have hne : m ≠ A.la 1 + 1 := by omega
    refine ⟨by rw [ver_lv1, if_neg hne]; exact h1, ?_⟩
    show up2 (up2 (up2 A.va 2 (A.la 1 + 1) b) 3 (A.la 1 + 1) 1099511627776) 4 (A.la 1 + 1) x 4 m = _
    rw [up2_other _ _ (fun q => hne q.2), up2_other _ _ (fun q => by omega), up2_other _ _ (fun q => by omega)]
  · rw [ver_lv1, if_neg (by omega)] at hl
    exact hl
theorem Ch.new (hok : A.ok) {l : List Nat} {x b : Int} {t : ByteArray} (hc : Ch A x l) (hx : x ≤ A.la 1) : Ch (A.ver t b x) ((A.la 1 + 1 : Nat) : Int) ((A.la 1 + 1) :: l) := by
  refine ⟨rfl, by rw [ver_lv1, if_pos rfl], ?_⟩
  have : (A.ver t b x).va 4 (A.la 1 + 1) = x := by
    show up2 (up2 (up2 A.va 2 (A.la 1 + 1) b) 3 (A.la 1 + 1) 1099511627776) 4 (A.la 1 + 1) x 4 (A.la 1 + 1) = _
    rw [up2_same]
  rw [this]
  exact hc.ver hok hx
theorem Ch.put0 {n : Nat} {v : Int} : ∀ {l : List Nat} {x : Int}, Ch A x l → Ch (A.put 0 n v) x l
  | [], x, h => h
  | y :: l, x, h => ⟨h.1, h.2.1, by
      have : (A.put 0 n v).va 4 y = A.va 4 y := by
        show up2 A.va 0 n v 4 y = _
        exact up2_other _ _ (fun q => by omega)
      rw [this]
      exact Ch.put0 h.2.2⟩
theorem ver_va3 {k : Nat} {t : ByteArray} {b x : Int} : (A.ver t b x).va 3 k = if k = A.la 1 + 1 then 1099511627776 else A.va 3 k := by
  show up2 (up2 (up2 A.va 2 (A.la 1 + 1) b) 3 (A.la 1 + 1) 1099511627776) 4 (A.la 1 + 1) x 3 k = _
  rw [up2_other _ _ (fun q => by omega)]
  by_cases e : k = A.la 1 + 1
  · rw [e, up2_same, if_pos rfl]
  · rw [up2_other _ _ (fun q => e q.2), if_neg e, up2_other _ _ (fun q => by omega)]
theorem put0_va3 {n : Nat} {v : Int} {k : Nat} : (A.put 0 n v).va 3 k = A.va 3 k := by
  show up2 A.va 0 n v 3 k = _
  exact up2_other _ _ (fun q => by omega)
theorem put0_va0 {n : Nat} {v : Int} {k : Nat} : (A.put 0 n v).va 0 k = if k = n then v else A.va 0 k := by
  show up2 A.va 0 n v 0 k = _
  by_cases e : k = n
  · rw [e, up2_same, if_pos rfl]
  · rw [up2_other _ _ (fun q => e q.2), if_neg e]
theorem ver_la1 {t : ByteArray} {b x : Int} : (A.ver t b x).la 1 = A.la 1 + 1 := by
  show up1 A.la 1 (A.la 1 + 1) 1 = _
  exact up1_same _ _ _

/-- What is in two chains. -/
structure Two (A : Stt) (x1 x2 : Int) (l1 l2 : List Nat) : Prop where
  f1 : Frt A 1 x1 l1
  f2 : Frt A 2 x2 l2
  len : l1.length = l2.length
  dis : ∀ m ∈ l1, m ∉ l2
  en : ∀ m ∈ l2, A.va 3 m = 1099511627776
/-- A state behind two versions and two pushes. -/
def twoA (A : Stt) (t : ByteArray) (b x1 x2 : Int) : Stt := (((A.ver t b x1).ver t b x2).put 0 1 ((A.la 1 + 1 : Nat) : Int)).put 0 2 ((A.la 1 + 1 + 1 : Nat) : Int)
theorem Frt.ver (hok : A.ok) {n : Nat} {x y b : Int} {l : List Nat} {t : ByteArray} (h : Frt A n x l) : Frt (A.ver t b y) n x l := by
  refine ⟨h.ch.ver hok (h.le hok).2, ver_va0.trans h.hd, by rw [ver_lv (by decide)]; exact h.lv, ?_⟩
  rcases h.xn with e | ⟨k, e, hk, k1⟩
  · exact .inl e
  · exact .inr ⟨k, e, by rw [ver_lv1]; split; rfl; exact hk, k1⟩
theorem Two.next (hok : A.ok) {t : ByteArray} {b x1 x2 : Int} {l1 l2 : List Nat} (hok2 : (A.ver t b x1).ok) (h : Two A x1 x2 l1 l2) : Two (twoA A t b x1 x2) ((A.la 1 + 1 : Nat) : Int) ((A.la 1 + 1 + 1 : Nat) : Int) ((A.la 1 + 1) :: l1) ((A.la 1 + 1 + 1) :: l2) := by
  have hl1 := h.f1.le hok
  have hl2 := h.f2.le hok
  have e1 : (A.ver t b x1).la 1 = A.la 1 + 1 := ver_la1
  have c1 := (h.f1.ch.new (t := t) (b := b) hok hl1.2).ver (t := t) (b := b) (x := x2) hok2 (by rw [e1]; omega)
  have c2 := (h.f2.ch.ver (t := t) (b := b) (x := x1) hok hl2.2).new (t := t) (b := b) hok2 (by rw [e1]; omega)
  rw [e1] at c2
  have lv1 : ∀ k, ((A.ver t b x1).ver t b x2).lv 1 k = if k = A.la 1 + 1 + 1 then true else if k = A.la 1 + 1 then true else A.lv 1 k := fun k => by
    rw [ver_lv1, e1, ver_lv1]
  refine ⟨⟨c1.put0.put0, ?_, ?_, .inr ⟨_, rfl, ?_, by omega⟩⟩, ⟨c2.put0.put0, ?_, ?_, .inr ⟨_, rfl, ?_, by omega⟩⟩, by simp [h.len], fun m hm => ?_, fun m hm => ?_⟩
  · unfold twoA
    rw [put0_va0, if_neg (by decide), put0_va0, if_pos rfl]
  · show ((A.ver t b x1).ver t b x2).lv 0 1 = true
    rw [ver_lv (by decide), ver_lv (by decide)]; exact h.f1.lv
  · show ((A.ver t b x1).ver t b x2).lv 1 (A.la 1 + 1) = true
    rw [lv1, if_neg (by omega), if_pos rfl]
  · unfold twoA
    rw [put0_va0, if_pos rfl]
  · show ((A.ver t b x1).ver t b x2).lv 0 2 = true
    rw [ver_lv (by decide), ver_lv (by decide)]; exact h.f2.lv
  · show ((A.ver t b x1).ver t b x2).lv 1 (A.la 1 + 1 + 1) = true
    rw [lv1, if_pos rfl]
  · intro q
    have b1 : ∀ k ∈ l1, k ≤ A.la 1 := fun k hk => (hok.n1 1 k (h.f1.ch.live k hk)).2
    have b2 : ∀ k ∈ l2, k ≤ A.la 1 := fun k hk => (hok.n1 1 k (h.f2.ch.live k hk)).2
    rcases List.mem_cons.1 hm with e | e <;> rcases List.mem_cons.1 q with e2 | e2
    · omega
    · have := b2 m e2; omega
    · have := b1 m e; omega
    · exact h.dis m e e2
  · unfold twoA
    rw [put0_va3, put0_va3, ver_va3, e1]
    rcases List.mem_cons.1 hm with e | e
    · rw [if_pos e]
    · have := (hok.n1 1 m (h.f2.ch.live m e)).2
      rw [if_neg (by omega), ver_va3, if_neg (by omega)]
      exact h.en m e

/-- One chain goes, the other stays. -/
structure Dp (A : Stt) (ls : List Nat) (x2 : Int) (l2 : List Nat) : Prop where
  c1 : Ch A (A.va 0 1) ls
  n1 : A.lv 0 1 = true
  c2 : Ch A x2 l2
  hd : A.va 0 2 = x2
  n2 : A.lv 0 2 = true
  dis : ∀ m ∈ ls, m ∉ l2
  en : ∀ m ∈ l2, A.va 3 m = 1099511627776
theorem Two.dp {x1 x2 : Int} {l1 l2 : List Nat} (h : Two A x1 x2 l1 l2) : Dp A l1 x2 l2 := ⟨by rw [h.f1.hd]; exact h.f1.ch, h.f1.lv, h.f2.ch, h.f2.hd, h.f2.lv, h.dis, h.en⟩
theorem Dp.drop (hok : A.ok) {y : Nat} {ls : List Nat} {x2 : Int} {l2 : List Nat} (h : Dp A (y :: ls) x2 l2) : A.va 0 1 = (y : Int) ∧ A.lv 1 y = true ∧ Dp ((A.off 1 y).put 0 1 (A.va 4 y)) ls x2 l2 := by
  obtain ⟨e, hy, hc⟩ := h.c1
  have hno : y ∉ ls := fun q => by
    have := hc.le hok y q
    have := hok.nx y hy
    omega
  have hn2 := h.dis y (by simp)
  have lvx : ∀ k, (A.off 1 y).lv 1 k = if k = y then false else A.lv 1 k := fun k => by
    show up2 A.lv 1 y false 1 k = _
    unfold up2
    by_cases e : k = y
    · simp [e]
    · simp [e]
  have stay : ∀ {z : Int} {l : List Nat}, Ch A z l → y ∉ l → Ch (A.off 1 y) z l := fun hz hq => hz.congr hok (fun m hm => ⟨by rw [lvx, if_neg (fun (e : m = y) => hq (by rw [← e]; exact hm))]; exact hz.live m hm, rfl⟩) (fun k _ hk => by
    rw [lvx] at hk
    split at hk
    · cases hk
    · exact hk)
  refine ⟨e, hy, ?_, ?_, (stay h.c2 hn2).put0, ?_, ?_, fun m hm => h.dis m (by simp [hm]), fun m hm => by rw [put0_va3]; exact h.en m hm⟩
  · rw [put0_va0, if_pos rfl]
    exact (stay hc hno).put0
  · show up2 A.lv 1 y false 0 1 = true
    rw [up2_other _ _ (fun q => by omega)]; exact h.n1
  · rw [put0_va0, if_neg (by decide)]; exact h.hd
  · show up2 A.lv 1 y false 0 2 = true
    rw [up2_other _ _ (fun q => by omega)]; exact h.n2
theorem Ch.cut {A' : Stt} : ∀ {l : List Nat} {x : Int} {c y : Nat}, Ch A x l → l[c]? = some y → (∀ m ∈ l.take (c + 1), A'.lv 1 m = true) → (∀ m ∈ l.take c, A'.va 4 m = A.va 4 m) → A'.va 4 y = 0 → A'.lv 1 0 = false → Ch A' x (l.take (c + 1))
  | [], _, _, _, _, hy, _, _, _, _ => by simp at hy
  | z :: l, x, 0, y, h, hy, h1, h2, h3, h4 => by
    simp at hy
    subst hy
    refine ⟨h.1, h1 z (by simp), ?_⟩
    rw [h3]
    exact .inr h4
  | z :: l, x, c + 1, y, h, hy, h1, h2, h3, h4 => by
    refine ⟨h.1, h1 z (by simp), ?_⟩
    rw [h2 z (by simp)]
    exact Ch.cut h.2.2 (by simpa using hy) (fun m hm => h1 m (by simp at hm ⊢; exact .inr hm)) (fun m hm => h2 m (by simp at hm ⊢; exact .inr hm)) h3 h4
theorem Two.cut (hok : A.ok) {x1 x2 : Int} {l1 l2 : List Nat} (h : Two A x1 x2 l1 l2) {c y : Nat} (hy : l1[c]? = some y) : Dp (offs (A.put 4 y 0) (l1.drop (c + 1))) (l1.take (c + 1)) x2 l2 := by
  have hnd := h.f1.ch.nodup hok
  have hdt : ∀ m ∈ l1.take (c + 1), m ∉ l1.drop (c + 1) := fun m hm q => by
    have := List.take_append_drop (c + 1) l1
    rw [← this] at hnd
    exact (List.nodup_append.1 hnd).2.2 m hm m q rfl
  have hyt : y ∈ l1 := List.mem_of_getElem? hy
  have va4 : ∀ m, (offs (A.put 4 y 0) (l1.drop (c + 1))).va 4 m = if m = y then 0 else A.va 4 m := fun m => by
    rw [offs_va]
    show up2 A.va 4 y 0 4 m = _
    by_cases e : m = y
    · rw [e, up2_same, if_pos rfl]
    · rw [up2_other _ _ (fun q => e q.2), if_neg e]
  have vax : ∀ k m, k ≠ 4 → (offs (A.put 4 y 0) (l1.drop (c + 1))).va k m = A.va k m := fun k m hk => by
    rw [offs_va]
    show up2 A.va 4 y 0 k m = _
    exact up2_other _ _ (fun q => hk q.1)
  have lvx : ∀ cc m, (offs (A.put 4 y 0) (l1.drop (c + 1))).lv cc m = if cc = 1 ∧ m ∈ l1.drop (c + 1) then false else A.lv cc m := fun cc m => offs_lv _ _ _ _
  have l0 : A.lv 1 0 = false := by
    cases q : A.lv 1 0 with
    | false => rfl
    | true => have := hok.n1 1 0 q; omega
  refine ⟨?_, ?_, ?_, ?_, ?_, fun m hm => h.dis m (List.mem_of_mem_take hm), fun m hm => ?_⟩
  · rw [vax 0 1 (by decide), h.f1.hd]
    refine h.f1.ch.cut hy (fun m hm => ?_) (fun m hm => ?_) ?_ ?_
    · rw [lvx, if_neg (fun q => hdt m hm q.2)]
      exact h.f1.ch.live m (List.mem_of_mem_take hm)
    · rw [va4, if_neg (fun e => ?_)]
      subst e
      obtain ⟨i, hi, e⟩ := List.getElem_of_mem hm
      rw [List.length_take] at hi
      rw [List.getElem_take] at e
      have := (List.getElem?_inj (h₀ := (by omega : i < l1.length)) hnd).1 ((List.getElem?_eq_getElem (by omega : i < l1.length)).trans (by rw [e, hy]))
      omega
    · rw [va4, if_pos rfl]
    · rw [lvx]
      split
      · rfl
      · exact l0
  · rw [lvx, if_neg (fun q => by omega)]; exact h.f1.lv
  · refine h.f2.ch.congr hok (fun m hm => ⟨?_, ?_⟩) (fun k _ hk => ?_)
    · rw [lvx, if_neg (fun q => h.dis m (List.mem_of_mem_drop q.2) hm)]
      exact h.f2.ch.live m hm
    · rw [va4, if_neg (fun (e : m = y) => h.dis y hyt (by rw [← e]; exact hm))]
    · rw [lvx] at hk
      split at hk
      · cases hk
      · exact hk
  · rw [vax 0 2 (by decide)]; exact h.f2.hd
  · rw [lvx, if_neg (fun q => by omega)]; exact h.f2.lv
  · rw [vax 3 m (by decide)]; exact h.en m hm
end

/-! ### in memory -/
section
variable {w w0 w1 w2 : World} {K K' : Nat → Prop} {sb d z M M' u u' : Nat} {A A' : Stt} {v : Value} {l : List Nat}
theorem push_put {n now : Nat} {x : Int} (h : Rp w K sb d z M A u) (hn : A.lv 0 n = true) (hv : A.va 0 n = x) (hx : x = 0 ∨ ∃ y : Nat, x = (y : Int) ∧ A.lv 1 y = true) (hnow : A.lv 1 now = true) (hM : M < 3800000000000000000) :
    Calls Tryd.prog 12 #[.pointer (some ⟨sb, 0, none⟩), .int .i64 (n : Int), .int .i64 x, .int .i64 (now : Int)] w fun e w' => e = .returned (.tuple #[.bool true, .int .i64 0]) ∧ Aft w w' K sb d z (M + 1) (A.put 0 n (now : Int)) u := by
  have hd : decide (A.va 0 n = x) = true := by rw [hv]; simp
  have key : ∀ e w', (e = Ending.returned (.tuple #[.bool (decide (A.va 0 n = x)), .int .i64 0]) ∧ Aft w w' K sb d z (M + 1) (A.swap 0 n x (now : Int)) u) → e = .returned (.tuple #[.bool true, .int .i64 0]) ∧ Aft w w' K sb d z (M + 1) (A.put 0 n (now : Int)) u := by
    rintro e w' ⟨rfl, a⟩
    rw [hd]
    have hs : A.swap 0 n x (now : Int) = A.put 0 n (now : Int) := by unfold Stt.swap; rw [if_pos hv]
    rw [hs] at a
    exact ⟨rfl, a⟩
  rcases hx with hx | ⟨y, hx, hy⟩
  · subst hx
    exact (push_zero h hn hnow (by omega)).mono key
  · subst hx
    exact (push_old h hn hnow hy (by omega)).mono key
/-- A row that is not the store's. -/
def Rw (w : World) (K : Nat → Prop) (v : Value) (l : List Nat) : Prop := (∃ b, Hr w b v l) ∧ ∀ j, v.ownBlock = some j → ¬ K j
theorem Rw.step (h : Rw w1 K v l) (hF : Fr K w1 w2) (hk : ∀ j, j < w1.heap.size → (K' j ↔ K j)) : Rw w2 K' v l := by
  obtain ⟨⟨b, hb⟩, hv⟩ := h
  exact ⟨⟨b, hrow_fr hb hF (fun j e => hv j e)⟩, fun j e q => hv j e ((hk j (World.ownsRow.lt hb j e).2).1 q)⟩
theorem Lv.chain (h : Lv w w1 K sb d z M A u) (hc : ChainR w1 w2 K sb d z M' A' u' l v) : ∃ K', Lv w w2 K' sb d z M' A' u' ∧ (∀ j, j < w1.heap.size → (K' j ↔ K j)) ∧ Fr K w1 w2 ∧ Rw w2 K' v l := by
  obtain ⟨hr, K', hR, hk, hF, hv⟩ := hc
  obtain ⟨K2, L2, -, -⟩ := h.step (M' := M') (A' := A') (u' := u') ⟨K', hR, hk, hF⟩
  refine ⟨K', ⟨hR, fun j hj => ?_, L2.bl⟩, hk, hF, ⟨⟨_, hr⟩, hv⟩⟩
  rcases Nat.lt_or_ge j w1.heap.size with q | q
  · exact h.kb j ((hk j q).1 hj)
  · have := h.bl.size; omega
theorem Rw.form (h : Rw w K v l) : ∃ ao cap, v = .slice ao l.length cap ∧ Seq 1 ih w ao l.length cap (l.map fun c : Nat => (c : Int)) := by
  obtain ⟨⟨b, hb⟩, _⟩ := h
  exact hb.seq
end
end Go.Proofs.YtohgjpljobmpaaaDoor
