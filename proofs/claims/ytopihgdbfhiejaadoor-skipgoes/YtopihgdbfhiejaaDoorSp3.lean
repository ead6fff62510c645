/-
  Sp3: Inserts that are done one behind the other: what is in.
  Sp4: Operations under way beside two rows of one's own, in memory.
  Sp5: One that goes on from key to key beside Inserts: what holds, turn by turn, without memory.
  Sp6: A step of the one that goes on, and of the Insert beside it.
-/
import Derived.Test.YtopihgdbfhiejaaDoorSp1
import Derived.Test.YtopihgdbfhiejaaDoorSp2
set_option linter.unusedVariables false
set_option linter.unusedSimpArgs false
namespace Go.Proofs.YtopihgdbfhiejaaDoor

section
open Go.RowKit Go.Maps Go.Sort

/-- A list has just these keys. -/
structure Ik (s : Sl) (ins : List AskR) : Prop where
  len : s.tw.length = ins.length + 1
  inn : ∀ a ∈ ins, ∃ i, 1 ≤ i ∧ i < s.tw.length ∧ (s.at i).k = a.key
  of : ∀ i, 1 ≤ i → i < s.tw.length → ∃ a ∈ ins, (s.at i).k = a.key
section
variable {w : World} {K : Nat → Prop} {lb d M : Nat} {s s' : Sl} {ins : List AskR} {ob : Nat} {o : Opm}
theorem Ik.start : Ik s0 [] := ⟨rfl, fun a ha => (by cases ha), fun i h1 h2 => by
  have : s0.tw.length = 1 := rfl
  omega⟩
theorem Ik.same (h : Ik s ins) (e : ks s' = ks s) : Ik s' ins := by
  have hl := ks_len e
  refine ⟨by rw [hl]; exact h.len, fun a ha => ?_, fun i h1 h2 => ?_⟩
  · obtain ⟨i, i1, i2, i3⟩ := h.inn a ha
    exact ⟨i, i1, by omega, by rw [(ks_at e i).1]; exact i3⟩
  · obtain ⟨a, ha, h3⟩ := h.of i h1 (by omega)
    exact ⟨a, ha, by rw [(ks_at e i).1]; exact h3⟩
theorem ks_app {k : ByteArray} {r : Int} {h : Nat} (e : ks s' = ks s ++ [(k, r, h)]) : s'.tw.length = s.tw.length + 1 ∧ (∀ i, i < s.tw.length → (s'.at i).k = (s.at i).k) ∧ (s'.at s.tw.length).k = k := by
  have hl : s'.tw.length = s.tw.length + 1 := by
    have := congrArg List.length e
    simpa [ks] using this
  have hg : ∀ i : Nat, (ks s')[i]? = (ks s ++ [(k, r, h)])[i]? := fun i => by rw [e]
  refine ⟨hl, fun i hi => ?_, ?_⟩
  · have := hg i
    rw [List.getElem?_append_left (by simpa [ks] using hi)] at this
    unfold ks at this
    simp only [List.getElem?_map, List.getElem?_eq_getElem hi, List.getElem?_eq_getElem (show i < s'.tw.length by omega), Option.map_some, Option.some.injEq, Prod.mk.injEq] at this
    simp only [Sl.at, List.getD, List.getElem?_eq_getElem hi, List.getElem?_eq_getElem (show i < s'.tw.length by omega), Option.getD_some]
    exact this.1
  · have := hg s.tw.length
    have e9 : (ks s).length = s.tw.length := by simp [ks]
    rw [List.getElem?_append_right (by omega), e9, Nat.sub_self] at this
    unfold ks at this
    simp only [List.getElem?_map, List.getElem?_eq_getElem (show s.tw.length < s'.tw.length by omega), Option.map_some, List.getElem?_cons_zero, Option.some.injEq, Prod.mk.injEq] at this
    simp only [Sl.at, List.getD, List.getElem?_eq_getElem (show s.tw.length < s'.tw.length by omega), Option.getD_some]
    exact this.1
theorem Ik.put (h : Ik s ins) (x : AskR) {r : Int} {hh : Nat} (e : ks s' = ks s ++ [(x.key, r, hh)]) : Ik s' (ins ++ [x]) := by
  obtain ⟨e1, e2, e3⟩ := ks_app e
  have hl := h.len
  refine ⟨by rw [e1, List.length_append, List.length_singleton]; omega, fun a ha => ?_, fun i h1 h2 => ?_⟩
  · rcases List.mem_append.1 ha with q | q
    · obtain ⟨i, i1, i2, i3⟩ := h.inn a q
      exact ⟨i, i1, by omega, by rw [e2 i i2]; exact i3⟩
    · simp at q
      rw [q]
      exact ⟨s.tw.length, by omega, by omega, e3⟩
  · by_cases q : i < s.tw.length
    · obtain ⟨a, ha, h3⟩ := h.of i h1 q
      exact ⟨a, List.mem_append.2 (.inl ha), by rw [e2 i q]; exact h3⟩
    · have : i = s.tw.length := by omega
      rw [this]
      exact ⟨x, by simp, e3⟩
theorem cells_le (hok : s.ok) (hsp : s.sp.length ≤ 8) : s.cells.length ≤ 8 * s.tw.length + 8 := by
  have key : ∀ l : List Tw, (∀ t ∈ l, t.h ≤ 8) → ((l.map Tw.cells).flatten).length ≤ 8 * l.length := by
    intro l
    induction l with
    | nil => intro _; simp
    | cons t l ih =>
      intro ha
      have h1 := ih (fun v hv => ha v (by simp [hv]))
      have h2 := ha t (by simp)
      rw [List.map_cons, List.flatten_cons, List.length_append, List.length_cons]
      have : t.cells.length = t.h := by simp [Tw.cells]
      omega
  have := key s.tw (fun t ht => by
    obtain ⟨i, hi, rfl⟩ := List.getElem_of_mem ht
    have ea : s.at i = s.tw[i] := by simp [Sl.at, List.getD, List.getElem?_eq_getElem hi]
    have := hok.sh i hi
    rw [ea] at this
    omega)
  unfold Sl.cells Sl.own
  rw [List.length_append]
  omega
/-- An Insert's operation as it is begun. -/
def opI (x : AskR) : Opm := { (if good x.key = true then opS 2 x.key else opN 2) with r := x.ref, h := hgt x.h }
/-- What is in behind it. -/
def Iin (s' : Sl) (ins : List AskR) (x : AskR) : Prop := (good x.key = true → (∀ a ∈ ins, a.key ≠ x.key) → Ik s' (ins ++ [x])) ∧ ((good x.key = false ∨ ∃ a ∈ ins, a.key = x.key) → Ik s' ins)
theorem done_ins (hl : LT w K lb d 600 M s) (hsp : s.sp = []) (hI : Ik s ins) (hn : ins.length ≤ 30) (x : AskR) (ho : Om w ob (lpp lb) nilv (opI x)) (hob : ¬ K ob) (h0 : ob ≠ 0) (hM : M < 1000000000) :
    Calls Tryd.prog 15 #[.pointer (some ⟨ob, 0, none⟩), .int .i64 100] w fun e w' => ∃ (n : Nat) (s' : Sl) (K' : Nat → Prop), e = .returned (.int .i64 (n : Int)) ∧ 1 ≤ n ∧ s'.sp = [] ∧ Iin s' ins x ∧ LT w' K' lb d 600 (M + 100) s' ∧ (∀ j, j < w.heap.size → (K' j ↔ K j)) ∧ Fr (fun j => K j ∨ j = ob) w w' := by
  have hh := hgt_bd x.h
  cases hg : good x.key with
  | true =>
    unfold opI at ho
    rw [if_pos hg] at ho
    have hcl := cells_le hl.ok (by rw [hsp]; simp)
    have hlen := hI.len
    refine (done_new (most := 100) hl hsp ho hob h0 (fun _ _ => rfl) (fun _ => ⟨hg, hh⟩) (fun _ => by omega) (by rw [if_pos rfl]; omega) (by decide) (by omega)).mono ?_
    rintro e w' ⟨n, s', o', K', cv', rfl, hn1, hfin, hl', ho', hnk, hK, hF⟩
    obtain ⟨f1, f2, f3, f4⟩ := hfin
    refine ⟨n, s', K', rfl, hn1, f3, ?_, hl', hK, hF⟩
    rcases f4 with ⟨j, j1, j2, j3, j4, j5, j6, j7⟩ | ⟨j0, _⟩ | ⟨_, _, _, _, j6, j7⟩
    · have hjk : (s.at j).k = x.key := by
        rcases j7 with q | q
        · exact q
        · exact absurd q.1 (by decide)
      refine ⟨fun _ hno => ?_, fun _ => hI.same j6⟩
      obtain ⟨a, ha, h3⟩ := hI.of j j1 j2
      exact absurd (by rw [← h3, hjk]) (hno a ha)
    · exact absurd rfl j0
    · refine ⟨fun _ _ => hI.put x j6, fun q => ?_⟩
      rcases q with q | ⟨a, ha, q⟩
      · rw [hg] at q; cases q
      · obtain ⟨i, i1, i2, i3⟩ := hI.inn a ha
        exact absurd (by rw [i3, q]) (j7 i i1 i2)
  | false =>
    unfold opI at ho
    rw [if_neg (by rw [hg]; decide)] at ho
    refine (done_gen (p := 1) (most := 100) (P := fun q u => q = 1 ∧ u = w) (R := fun w' => LT w' K lb d 600 M s ∧ Fr (fun j => j = ob) w w') ⟨rfl, rfl⟩ (fun q u h => by omega) (fun q u h => ?_) (by decide) (by decide)).mono ?_
    · rw [h.2]
      refine (hl.refuse ho hob (fun e => h0 e.symm) rfl).mono ?_
      rintro e w' ⟨rfl, h1, h2, hF⟩
      exact ⟨true, rfl, fun _ => ⟨h1, hF⟩, fun c => (by cases c)⟩
    · rintro e w' ⟨n, rfl, hn1, _, h1, hF⟩
      refine ⟨n, s, K, rfl, hn1, hsp, ⟨fun c => (by rw [hg] at c; cases c), fun _ => hI⟩, h1.up (by omega), fun _ _ => Iff.rfl, hF.mono (fun _ _ e => .inr e)⟩
theorem LT.insertI (hl : LT w K lb d 600 M s) (x : AskR) (hx : x.ok) :
    Calls Tryd.prog 27 #[.pointer (some ⟨lb, 0, none⟩), .string x.key, .int .i64 x.ref, .int .i64 x.h] w fun e w' => e = .returned (.pointer (some ⟨w.heap.size, 0, none⟩)) ∧ Om w' w.heap.size (lpp lb) nilv (opI x) ∧ Below w.heap.size w w' :=
  insert_raw (lp := lpp lb) (hl.begin2 2 (by decide) x.key hx.2.2.1)
end
end

section
open Go.RowKit Go.Maps Go.Sort

/-- A list, operations under way, the asks that are in, the keys that were met. -/
structure Gm (w wr : World) (lb d M : Nat) (K : Nat → Prop) (s : Sl) (vi : Value) (ins : List AskR) (vm : Value) (met : List ByteArray) (l : List Un) : Prop where
  ht : LT wr K lb d 600 M s
  ai : Ar wr w.heap.size vi ins
  am : wr.ownsRow w.heap.size 9 1 vm met.length (met.map Value.string)
  ops : ∀ u ∈ l, Ob wr u.B u.b lb u.cv u.o
  db : ∀ (i j : Nat) (u x : Un), l[i]? = some u → l[j]? = some x → i ≠ j → ∀ k, u.B k → ¬ x.B k
  kb : ∀ j, K j → w.heap.size ≤ j
  ko : ∀ u ∈ l, ∀ j, u.B j → ¬ K j ∧ w.heap.size ≤ j ∧ vi.ownBlock ≠ some j ∧ vm.ownBlock ≠ some j
  ki : ∀ j, vi.ownBlock = some j → ¬ K j ∧ vm.ownBlock ≠ some j
  km : ∀ j, vm.ownBlock = some j → ¬ K j
  bl : Below w.heap.size w wr
  b0 : 0 < w.heap.size
section
variable {w wr w1 w' : World} {lb d M : Nat} {K : Nat → Prop} {s s' : Sl} {vi vm vm' : Value} {ins : List AskR} {met met' : List ByteArray} {l l' : List Un}
theorem Hs.gm (h : Hs w wr lb d M K s [] (.slice none 0 0) vi ins) : Gm w wr lb d M K s vi ins (.slice none 0 0) [] [] :=
  ⟨h.ht, h.ar, ⟨rfl, .inl ⟨rfl, rfl⟩⟩, fun u hu => (by cases hu), fun i j u x hi => (by simp at hi), h.kb, fun u hu => (by cases hu), fun j e => ⟨(h.kv j e).1, fun c => (by cases c)⟩, fun j e => (by cases e), h.bl, h.b0⟩
theorem Gm.below (h : Gm w wr lb d M K s vi ins vm met l) (hb : Below wr.heap.size wr w') : Gm w w' lb d M K s vi ins vm met l :=
  ⟨h.ht.below hb, hrow_fr h.ai (Fr.below (F := fun _ => False) hb) (fun _ _ => id), hrow_fr h.am (Fr.below (F := fun _ => False) hb) (fun _ _ => id), fun u hu => (h.ops u hu).keep (Fr.below (F := fun _ => False) hb) (fun _ _ => id), h.db, h.kb, h.ko, h.ki, h.km, h.bl.trans ⟨hb.os, hb.tape, hb.output, hb.size, fun j hj => hb.block j (by have := h.bl.size; omega)⟩, h.b0⟩
theorem Gm.up {M' : Nat} (h : Gm w wr lb d M K s vi ins vm met l) (hM : M ≤ M') : Gm w wr lb d M' K s vi ins vm met l :=
  ⟨h.ht.up hM, h.ai, h.am, h.ops, h.db, h.kb, h.ko, h.ki, h.km, h.bl, h.b0⟩
/-- Fewer operations. -/
theorem Gm.less (h : Gm w wr lb d M K s vi ins vm met l) (f : Nat → Nat) (hf : ∀ i j, f i = f j → i = j) (hl : ∀ i, l'[i]? = none ∨ l'[i]? = l[f i]?) : Gm w wr lb d M K s vi ins vm met l' := by
  have hg : ∀ (i : Nat) (u : Un), l'[i]? = some u → l[f i]? = some u := fun i u hu => by
    rcases hl i with q | q
    · rw [q] at hu; cases hu
    · rw [← q]; exact hu
  have hm : ∀ u ∈ l', u ∈ l := fun u hu => by
    obtain ⟨i, hi⟩ := List.getElem?_of_mem hu
    exact List.mem_of_getElem? (hg i u hi)
  exact ⟨h.ht, h.ai, h.am, fun u hu => h.ops u (hm u hu), fun i j u x hi hj hne => h.db (f i) (f j) u x (hg i u hi) (hg j x hj) (fun e => hne (hf i j e)), h.kb, fun u hu => h.ko u (hm u hu), h.ki, h.km, h.bl, h.b0⟩
/-- One operation more, which was just begun. -/
theorem Gm.push (h : Gm w wr lb d M K s vi ins vm met l) (hb : Below wr.heap.size wr w') {u : Un} (ho : Ob w' u.B u.b lb u.cv u.o) (hB : ∀ j, u.B j → wr.heap.size ≤ j) : Gm w w' lb d M K s vi ins vm met (l ++ [u]) := by
  have h2 := h.below hb
  have hs1 := h.bl.size
  have hkl := h.ht.kl
  have hbl : ∀ x ∈ l, ∀ j, x.B j → j < wr.heap.size := fun x hx => (h.ops x hx).kl
  have hvi : ∀ j, vi.ownBlock = some j → j < wr.heap.size := fun j e => (World.ownsRow.lt h.ai j e).2
  have hvm : ∀ j, vm.ownBlock = some j → j < wr.heap.size := fun j e => (World.ownsRow.lt h.am j e).2
  have hget : ∀ (j : Nat) (x : Un), (l ++ [u])[j]? = some x → l[j]? = some x ∨ (j = l.length ∧ x = u) := fun j x hj => by
    rw [List.getElem?_append] at hj
    split at hj
    · exact .inl hj
    · rename_i hlt
      have : j - l.length = 0 := by
        rcases Nat.eq_zero_or_pos (j - l.length) with q | q
        · exact q
        · rw [List.getElem?_eq_none (by simp; omega)] at hj; cases hj
      rw [this] at hj
      simp at hj
      exact .inr ⟨by omega, hj.symm⟩
  refine ⟨h2.ht, h2.ai, h2.am, fun x hx => ?_, fun i j x y hi hj hne k hk hy => ?_, h.kb, fun x hx j hj => ?_, h.ki, h.km, h2.bl, h.b0⟩
  · rcases List.mem_append.1 hx with q | q
    · exact h2.ops x q
    · simp at q; subst q; exact ho
  · rcases hget i x hi with q | ⟨q1, q2⟩ <;> rcases hget j y hj with r | ⟨r1, r2⟩
    · exact h.db i j x y q r hne k hk hy
    · rw [r2] at hy
      have := hB k hy
      have := hbl x (List.mem_of_getElem? q) k hk
      omega
    · rw [q2] at hk
      have := hB k hk
      have := hbl y (List.mem_of_getElem? r) k hy
      omega
    · omega
  · rcases List.mem_append.1 hx with q | q
    · exact h.ko x q j hj
    · simp at q; subst q
      have hj1 := hB j hj
      exact ⟨fun e => by have := hkl _ e; omega, by omega, fun e => by have := hvi j e; omega, fun e => by have := hvm j e; omega⟩
/-- One has gone on. -/
theorem Gm.went {j : Nat} {u : Un} {o' : Opm} {K' B' : Nat → Prop} {cv' : Value} {M' : Nat} {f : Option Nat} (h : Gm w wr lb d M K s vi ins vm met l) (hj : l[j]? = some u) (hH : LT w1 K' lb d 600 M' s') (ho : Ob w1 B' u.b lb cv' o') (hN : Nx wr w1 K u.B K' B') :
    Gm w w1 lb d M' K' s' vi ins vm met (l.set j { u with o := o', B := B', cv := cv', fin := f }) := by
  have hu := List.mem_of_getElem? hj
  have hs1 := h.bl.size
  have hF := hN.fr
  have hbl : ∀ x ∈ l, ∀ k, x.B k → k < wr.heap.size := fun x hx => (h.ops x hx).kl
  have hvi : ∀ j, vi.ownBlock = some j → w.heap.size ≤ j ∧ j < wr.heap.size := fun j e => World.ownsRow.lt h.ai j e
  have hvm : ∀ j, vm.ownBlock = some j → w.heap.size ≤ j ∧ j < wr.heap.size := fun j e => World.ownsRow.lt h.am j e
  refine ⟨hH, hrow_fr h.ai hF (fun j2 e q => q.elim (h.ki j2 e).1 (fun q => (h.ko u hu j2 q).2.2.1 e)), hrow_fr h.am hF (fun j2 e q => q.elim (h.km j2 e) (fun q => (h.ko u hu j2 q).2.2.2 e)), fun x hx => ?_, fun i1 i2 x y h1 h2 hne k hk hy => ?_, fun j2 hj2 => ?_, fun x hx j2 hj2 => ?_, fun j2 e => ?_, fun j2 e q => ?_, h.bl.trans (hF.to (fun j2 hj2 q => ?_) hs1), h.b0⟩
  · rcases set_mem hj hx with e | ⟨i, hi, h1⟩
    · rw [e]; exact ho
    · have hxl := List.mem_of_getElem? h1
      exact (h.ops x hxl).keep hF (fun k hk q => q.elim (h.ko x hxl k hk).1 (fun q => h.db i j x u h1 hj hi k hk q))
  · rcases set_get hj h1 with ⟨e1, e2⟩ | ⟨e1, e2⟩ <;> rcases set_get hj h2 with ⟨e3, e4⟩ | ⟨e3, e4⟩
    · omega
    · rw [e2] at hk
      have hkl := hbl y (List.mem_of_getElem? e4) k hy
      exact h.db j i2 u y hj e4 (fun c => e3 c.symm) k ((hN.b k hkl).1 hk) hy
    · rw [e4] at hy
      have hkl := hbl x (List.mem_of_getElem? e2) k hk
      exact h.db i1 j x u e2 hj e1 k hk ((hN.b k hkl).1 hy)
    · exact h.db i1 i2 x y e2 e4 hne k hk hy
  · rcases Nat.lt_or_ge j2 wr.heap.size with q | q
    · exact h.kb j2 ((hN.k j2 q).1 hj2)
    · omega
  · rcases set_mem hj hx with e | ⟨i, hi, h1⟩
    · rw [e] at hj2
      have hj2' : B' j2 := hj2
      rcases Nat.lt_or_ge j2 wr.heap.size with q | q
      · obtain ⟨a1, a2⟩ := h.ko u hu j2 ((hN.b j2 q).1 hj2')
        exact ⟨fun c => a1 ((hN.k j2 q).1 c), a2⟩
      · exact ⟨fun c => hN.ap j2 c hj2', by omega, fun c => by have := (hvi j2 c).2; omega, fun c => by have := (hvm j2 c).2; omega⟩
    · have hxl := List.mem_of_getElem? h1
      obtain ⟨a1, a2⟩ := h.ko x hxl j2 hj2
      exact ⟨fun c => a1 ((hN.k j2 (hbl x hxl j2 hj2)).1 c), a2⟩
  · obtain ⟨a1, a2⟩ := h.ki j2 e
    exact ⟨fun c => a1 ((hN.k j2 (hvi j2 e).2).1 c), a2⟩
  · exact h.km j2 e ((hN.k j2 (hvm j2 e).2).1 q)
  · rcases q with q | q
    · have := h.kb j2 q; omega
    · have := (h.ko u hu j2 q).2.1; omega
/-- One key more was met. -/
theorem Gm.mets (h : Gm w wr lb d M K s vi ins vm met l) (hF : Fr (fun j => vm.ownBlock = some j) wr w') (hr : w'.ownsRow w.heap.size 9 1 vm' met'.length (met'.map Value.string)) (hv : ∀ j, vm'.ownBlock = some j → vm.ownBlock = some j ∨ wr.heap.size ≤ j) : Gm w w' lb d M K s vi ins vm' met' l := by
  have hvi : ∀ j, vi.ownBlock = some j → w.heap.size ≤ j ∧ j < wr.heap.size := fun j e => World.ownsRow.lt h.ai j e
  have hvm : ∀ j, vm.ownBlock = some j → w.heap.size ≤ j ∧ j < wr.heap.size := fun j e => World.ownsRow.lt h.am j e
  refine ⟨h.ht.keep hF (fun j hj e => h.km j e hj) (fun e => by have := (hvm 0 e).1; have := h.b0; omega), hrow_fr h.ai hF (fun j e q => (h.ki j e).2 q), hr, fun u hu => (h.ops u hu).keep hF (fun j hj q => (h.ko u hu j hj).2.2.2 q), h.db, h.kb, fun u hu j hj => ?_, fun j e => ⟨(h.ki j e).1, fun c => ?_⟩, fun j e c => ?_, h.bl.trans (hF.to (fun j hj e => by have := (hvm j e).1; omega) h.bl.size), h.b0⟩
  · obtain ⟨a1, a2, a3, a4⟩ := h.ko u hu j hj
    refine ⟨a1, a2, a3, fun e => ?_⟩
    rcases hv j e with q | q
    · exact a4 q
    · have := (h.ops u hu).kl j hj; omega
  · rcases hv j c with q | q
    · exact (h.ki j e).2 q
    · have := (hvi j e).2; omega
  · rcases hv j e with q | q
    · exact h.km j q c
    · have := h.ht.kl j c; omega
end
end

section
open Go.RowKit Go.Maps Go.Sort

/-- How many turns it had at least, up to a time. -/
def otn (i : Nat) : Nat := if i < 10000 then 0 else (i - 10000) - (i / 5 - 2000)
theorem otn_o (i : Nat) : otn (i + 1) ≤ otn i + 1 := by
  unfold otn
  split <;> split <;> omega
theorem otn_t {i : Nat} (h : 10000 ≤ i → i % 5 = 4) : otn (i + 1) ≤ otn i := by
  unfold otn
  split <;> split <;> omega
theorem otn_end : otn 200000 = 152000 := by decide
def xN (k : ByteArray) : AskR := ⟨0, 2, k, 0, 0⟩
def xI (y : AskR) : AskR := { y with kind := 0 }
theorem okd_N (k : ByteArray) : okd (xN k) = 1 := by
  have : pk (xN k).kind 3 = 2 := by show pk 2 3 = 2; decide
  unfold okd
  rw [this]; rfl
theorem okd_I (y : AskR) : okd (xI y) = 2 := by
  have : pk (xI y).kind 3 = 0 := by show pk 0 3 = 0; decide
  unfold okd
  rw [this]; rfl
theorem bad_N (k : ByteArray) : bad (xN k) = false := by unfold bad; rw [okd_N]; rfl
theorem opA_N (k : ByteArray) : opA (xN k) = { opS 1 k with r := 0, h := 0 } := by
  have : pk (xN k).kind 3 = 2 := by show pk 2 3 = 2; decide
  unfold opA
  rw [this]; rfl
theorem opA_I (y : AskR) : opA (xI y) = opI y := by
  have : pk (xI y).kind 3 = 0 := by show pk 0 3 = 0; decide
  unfold opA
  rw [this]; rfl
def pend : Option Un → Nat
  | some u => if u.o.tw = 0 then 1 else 0
  | none => 0
def Phi (s : Sl) (u : Un) : Nat := cur s u.o + 101 * ahead s u.x.key + 102 * (60 - (s.tw.length - 1))
structure Gp (s : Sl) (ins : List AskR) (met : List ByteArray) (u0 : Un) (ot : Option Un) (k i : Nat) : Prop where
  k0 : okd u0.x = 1
  r0 : Run s u0.x u0.o
  r1 : ∀ u1, ot = some u1 → okd u1.x = 2 ∧ ((bad u1.x = false ∧ Run s u1.x u1.o) ∨ (bad u1.x = true ∧ u1.o = opA u1.x))
  sp : ∀ c ∈ s.sp, ∃ u1, ot = some u1 ∧ bad u1.x = false ∧ u1.o.tw = 0 ∧ c ∈ u1.o.cs
  tl : s.tw.length + pend ot ≤ 31 + k
  kk : k ≤ 30
  inn : ∀ a ∈ ins, ∃ j, 1 ≤ j ∧ j < s.tw.length ∧ (s.at j).k = a.key
  mt : ∀ a ∈ ins, Blw a.key u0.x.key → a.key ∈ met
  phi : Phi s u0 + met.length + otn i ≤ 9500
section
variable {s s' : Sl} {ins : List AskR} {met : List ByteArray} {u0 u1 : Un} {ot : Option Un} {k i : Nat} {o' : Opm} {x : AskR} {o : Opm}
theorem next_same (h : Run s x o) (hk : okd x = 1) (hs : Sq 600 s o s' o') : s' = s := by
  obtain ⟨a1, a2, a3, a4⟩ := h.next1 hk
  cases hs with
  | give c rest h0 ec => omega
  | stp s' o' h4 hs =>
    cases hs with
    | leave => rfl
    | found => rfl
    | pass => rfl
    | take c h0 => omega
    | link h0 => omega
    | late h0 => omega
    | raise h0 => omega
    | slip h0 => omega
theorem Gp.len (h : Gp s ins met u0 ot k i) : s.tw.length ≤ 61 := by have := h.tl; have := h.kk; omega
theorem Gp.room (h : Gp s ins met u0 ot k i) (hok : s.ok) (hnd : s.cells.Nodup) : s.cells.length < 600 := by
  have hl := h.len
  have : s.sp.length ≤ 8 := by
    rcases List.eq_nil_or_concat s.sp with e | ⟨L, b, e⟩
    · rw [e]; simp
    · obtain ⟨u1, e1, b1, t1, c1⟩ := h.sp b (by rw [e]; simp)
      have hr : Run s u1.x u1.o := by
        rcases (h.r1 u1 e1).2 with q | q
        · exact q.2
        · rw [b1] at q; cases q.1
      have h8 : u1.o.cs.length ≤ 8 := by
        have h9 := (hr.cs t1).2.2
        have := (hr.h (h.r1 u1 e1).1).1
        have := hgt_bd u1.x.h
        omega
      refine Nat.le_trans (nodup_leN s.sp u1.o.cs (List.nodup_append.1 hnd).2.1 (fun c hc => ?_)) h8
      obtain ⟨u2, e2, b2, t2, c2⟩ := h.sp c hc
      rw [e1] at e2
      cases e2
      exact c2
  have := cells_le hok this
  omega
/-- It goes on, and is not done. -/
theorem Gp.step0 (h : Gp s ins met u0 ot k i) (hok : s.ok) (hnd : s.cells.Nodup) (hs : Sq 600 s u0.o s o') (h5 : o'.st ≠ 5) {B' : Nat → Prop} {cv' : Value} : Gp s ins met { u0 with o := o', B := B', cv := cv', fin := none } ot k (i + 1) := by
  have hr := (h.r0.step hok hok hnd hs).1 h5
  have hc : cur s o' + 1 ≤ cur s u0.o := by
    rcases cur_step h.r0 hok hs h5 with q | q
    · exact q
    · omega
  refine ⟨h.k0, hr, h.r1, h.sp, h.tl, h.kk, h.inn, h.mt, ?_⟩
  have := h.phi
  have := otn_o i
  unfold Phi at *
  show cur s o' + 101 * ahead s u0.x.key + _ + _ + _ ≤ _
  omega
/-- It is done. -/
theorem Gp.done0 (h : Gp s ins met u0 ot k i) (hok : s.ok) (hnd : s.cells.Nodup) (hs : Sq 600 s u0.o s o') (h5 : o'.st = 5) : o'.code = 0 ∧ o'.fk.size ≤ 16 ∧ (o'.had = true → ¬ Blw o'.fk u0.x.key) ∧ (o'.had = false → ∀ a ∈ ins, a.key ∈ met) ∧
    (o'.had = true → ∀ (b : Nat) (B : Nat → Prop) (cv : Value) (bg : Nat), Gp s ins (met ++ [o'.fk]) ⟨xN (o'.fk ++ nul), opA (xN (o'.fk ++ nul)), b, B, cv, bg, none⟩ ot k (i + 1)) := by
  obtain ⟨fd, sn⟩ := (h.r0.step hok hok hnd hs).2 h5
  have hcp := cur_pos h.r0
  have key : o'.had = true → ∃ j, 1 ≤ j ∧ j < s.tw.length ∧ (s.at j).k = o'.fk ∧ ¬ Blw o'.fk u0.x.key := fun hd => by
    rcases fd.ans with q | q | q | q
    · rw [q.2.2.1] at hd; cases hd
    · obtain ⟨_, _, h2, j, h3, h4, h5, h6⟩ := q
      exact ⟨j, h3, h4, by rw [h5, h2], by rw [h2]; exact Blw.irrefl⟩
    · obtain ⟨_, _, _, ⟨j, h3, h4, h5, h6⟩, h7⟩ := q
      exact ⟨j, h3, h4, h5, fun c => Blw.irrefl (h7.trans c)⟩
    · rw [q.2.2.1] at hd; cases hd
  refine ⟨fd.code, ?_, fun hd => (key hd).choose_spec.2.2.2, fun hd a ha => ?_, fun hd b B cv bg => ?_⟩
  · by_cases q : o'.fk = .empty
    · rw [q]; simp
    · obtain ⟨j, h1, h2, h3⟩ := fd.key q
      rw [← h3]; exact good_le hok h2
  · obtain ⟨j, j1, j2, j3⟩ := h.inn a ha
    have := (sn j j1 j2).2 h.k0
    rw [j3] at this
    by_cases q : Blw a.key u0.x.key
    · exact h.mt a ha q
    · have := (this q).1
      rw [hd] at this; cases this
  · obtain ⟨j, j1, j2, j3, j4⟩ := key hd
    have hm : ∀ y, ¬ Blw y (o'.fk ++ nul) → ¬ Blw y u0.x.key := fun y hy c => hy ((blw_next y o'.fk).2 (by
      rcases Blw.tri y o'.fk with q | q | q
      · exact .inr q
      · exact .inl q
      · exact absurd (q.trans c) j4))
    have ha := ahead_next (fr := u0.x.key) (fr' := o'.fk ++ nul) j1 j2 (by rw [j3]; exact j4) (by rw [j3]; exact (blw_next _ _).2 (.inl rfl)) hm
    have hrn := opA_run hok (xN (o'.fk ++ nul)) (bad_N _)
    have hcl := cur_next_le (n := 60) hrn (okd_N _) h.len
    refine ⟨okd_N _, hrn, h.r1, h.sp, h.tl, h.kk, h.inn, fun a ha c => ?_, ?_⟩
    · rcases (blw_next a.key o'.fk).1 c with q | q
      · rw [q]; simp
      · refine List.mem_append.2 (.inl ?_)
        by_cases r : Blw a.key u0.x.key
        · exact h.mt a ha r
        · obtain ⟨jj, k1, k2, k3⟩ := h.inn a ha
          have := (sn jj k1 k2).2 h.k0
          rw [k3] at this
          exact absurd q (this r).2
    · have := h.phi
      have := otn_o i
      unfold Phi at *
      show cur s (opA (xN (o'.fk ++ nul))) + 101 * ahead s (o'.fk ++ nul) + _ + (met ++ [o'.fk]).length + _ ≤ _
      rw [List.length_append, List.length_singleton]
      omega
/-- The other one's turn, and there is none. -/
theorem Gp.idle (h : Gp s ins met u0 ot k i) (ht : 10000 ≤ i → i % 5 = 4) : Gp s ins met u0 ot k (i + 1) :=
  ⟨h.k0, h.r0, h.r1, h.sp, h.tl, h.kk, h.inn, h.mt, by have := h.phi; have := otn_t ht; omega⟩
/-- Another one is begun. -/
theorem Gp.push (h : Gp s ins met u0 none k i) (hok : s.ok) (hk : k < 30) (y : AskR) (b : Nat) (B : Nat → Prop) (cv : Value) (bg : Nat) : Gp s ins met u0 (some ⟨xI y, opA (xI y), b, B, cv, bg, none⟩) (k + 1) i := by
  refine ⟨h.k0, h.r0, fun u1 e => ?_, fun c hc => ?_, ?_, by omega, h.inn, h.mt, h.phi⟩
  · cases e
    refine ⟨okd_I y, ?_⟩
    cases hb : bad (xI y) with
    | false => exact .inl ⟨rfl, opA_run hok _ hb⟩
    | true => exact .inr ⟨rfl, rfl⟩
  · obtain ⟨u1, e, _⟩ := h.sp c hc
    cases e
  · have := h.tl
    show s.tw.length + (if (opA (xI y)).tw = 0 then 1 else 0) ≤ _
    rw [if_pos (opA_tw _).1]
    simp only [pend] at this
    omega
/-- The other one goes on. -/
theorem Gp.step1 (h : Gp s ins met u0 (some u1) k i) (hb : bad u1.x = false) (hr : Run s u1.x u1.o) (hok : s.ok) (hok' : s'.ok) (hnd : s.cells.Nodup) (ht : 10000 ≤ i → i % 5 = 4) (hs : Sq 600 s u1.o s' o') {B' : Nat → Prop} {cv' : Value} :
    (o'.st ≠ 5 → Gp s' ins met u0 (some { u1 with o := o', B := B', cv := cv', fin := none }) k (i + 1)) ∧ (o'.st = 5 → Gp s' ins met u0 none k (i + 1)) := by
  obtain ⟨S1, S2⟩ := hr.step hok hok' hnd hs
  have g := hs.grw hr
  obtain ⟨a1, a2, a3, a4⟩ := h.r0.next1 h.k0
  have h0' : Run s' u0.x u0.o := h.r0.other g (fun q => absurd a4 q) (fun _ c hc => by rw [a3] at hc; cases hc)
  have htl := h.tl
  have hks := hs.ks hr
  have hspl : ∀ c ∈ s'.sp, o'.st ≠ 5 ∧ o'.tw = 0 ∧ c ∈ o'.cs := fun c hc => by
    rcases hs.spl hr hc with ⟨q1, q2⟩ | q
    · obtain ⟨u2, e2, b2, t2, c2⟩ := h.sp c q1
      cases e2
      exact q2 t2 c2
    · exact q
  have htl' : s'.tw.length + (if o'.tw = 0 then 1 else 0) ≤ 31 + k := by
    simp only [pend] at htl
    rcases hks with ⟨q1, q2, q3⟩ | ⟨q1, q2, q3, q4, q5⟩
    · rw [q1, q3]; exact htl
    · rw [if_pos q1] at htl
      have := hok.n1
      rw [q4, if_neg (by omega)]
      omega
  have hle : s'.tw.length ≤ 61 := by have := h.kk; omega
  have hphi : Phi s' u0 + met.length + otn (i + 1) ≤ 9500 := by
    have h1 := h.phi
    have h2 := otn_t ht
    unfold Phi at *
    rcases cur_other h.r0 h.k0 hr hs with q | q
    · omega
    · omega
  have hinn : ∀ a ∈ ins, ∃ j, 1 ≤ j ∧ j < s'.tw.length ∧ (s'.at j).k = a.key := fun a ha => by
    obtain ⟨j, j1, j2, j3⟩ := h.inn a ha
    exact ⟨j, j1, Nat.lt_of_lt_of_le j2 g.len, by rw [g.k j j2]; exact j3⟩
  refine ⟨fun h5 => ⟨h.k0, h0', fun u2 e => ?_, fun c hc => ?_, htl', h.kk, hinn, h.mt, hphi⟩, fun h5 => ⟨h.k0, h0', fun u2 e => (by cases e), fun c hc => absurd h5 (hspl c hc).1, ?_, h.kk, hinn, h.mt, hphi⟩⟩
  · cases e
    exact ⟨(h.r1 u1 rfl).1, .inl ⟨hb, S1 h5⟩⟩
  · exact ⟨_, rfl, hb, (hspl c hc).2⟩
  · show s'.tw.length + 0 ≤ _
    split at htl' <;> omega
theorem Gp.bad1 (h : Gp s ins met u0 (some u1) k i) (hb : bad u1.x = true) (ht : 10000 ≤ i → i % 5 = 4) : Gp s ins met u0 none k (i + 1) := by
  refine ⟨h.k0, h.r0, fun u2 e => (by cases e), fun c hc => ?_, ?_, h.kk, h.inn, h.mt, by have := h.phi; have := otn_t ht; omega⟩
  · obtain ⟨u2, e2, b2, _⟩ := h.sp c hc
    cases e2
    rw [hb] at b2; cases b2
  · have := h.tl
    show s.tw.length + 0 ≤ _
    omega
theorem Gp.fin (h : Gp s ins met u0 ot k 200000) : False := by
  have := h.phi
  rw [otn_end] at this
  omega
theorem Gp.start (hok : s.ok) (hsp : s.sp = []) (hI : Ik s ins) (hn : ins.length ≤ 30) (b : Nat) (B : Nat → Prop) (cv : Value) (bg : Nat) : Gp s ins [] ⟨xN .empty, opA (xN .empty), b, B, cv, bg, none⟩ none 0 0 := by
  have hl := hI.len
  have hrn := opA_run hok (xN .empty) (bad_N _)
  have hcl := cur_next_le (n := 30) hrn (okd_N _) (by omega)
  have hah := ahead_le s .empty
  refine ⟨okd_N _, hrn, fun u1 e => (by cases e), fun c hc => (by rw [hsp] at hc; cases hc), by show s.tw.length + 0 ≤ _; omega, by omega, fun a ha => hI.inn a ha, fun a _ c => absurd c Blw.empty, ?_⟩
  unfold Phi
  show cur s (opA (xN .empty)) + 101 * ahead s .empty + _ + 0 + otn 0 ≤ _
  have : otn 0 = 0 := rfl
  omega
end
end

section
open Go.RowKit Go.Maps Go.Sort

section
variable {w wr : World} {lb d M k t : Nat} {K : Nat → Prop} {s : Sl} {vi vm : Value} {ins : List AskR} {met : List ByteArray} {u0 u1 : Un} {ot : Option Un} {l1 : List Un}
theorem step_other (G : Gm w wr lb d M K s vi ins vm met [u0, u1]) (P : Gp s ins met u0 (some u1) k t) (ht : 10000 ≤ t → t % 5 = 4) (hM : M < 1000000000000) :
    Calls Tryd.prog 20 #[.pointer (some ⟨u1.b, 0, none⟩)] wr fun e w' => ∃ (b : Bool) (s' : Sl) (K' : Nat → Prop), e = .returned (.bool b) ∧ (b = true → Gm w w' lb d (M + 1) K' s' vi ins vm met [u0] ∧ Gp s' ins met u0 none k (t + 1)) ∧
      (b = false → ∃ u1' : Un, u1'.b = u1.b ∧ Gm w w' lb d (M + 1) K' s' vi ins vm met [u0, u1'] ∧ Gp s' ins met u0 (some u1') k (t + 1)) := by
  have hu : ([u0, u1] : List Un)[1]? = some u1 := rfl
  have hum := List.mem_of_getElem? hu
  have hou := G.ops u1 hum
  have hko := G.ko u1 hum
  have hKB : ∀ j, K j → ¬ u1.B j := fun j hj hb => (hko j hb).1 hj
  have hok := G.ht.ok
  have hnd := G.ht.nd
  have hless : ∀ {w' : World} {M' : Nat} {K' : Nat → Prop} {s' : Sl} {u2 : Un}, Gm w w' lb d M' K' s' vi ins vm met [u0, u2] → Gm w w' lb d M' K' s' vi ins vm met [u0] := fun h => h.less id (fun _ _ e => e) (fun i => by
    cases i with
    | zero => exact .inr rfl
    | succ i => exact .inl rfl)
  rcases (P.r1 u1 rfl).2 with ⟨hb, hr⟩ | ⟨hb, e1⟩
  · have key : ∀ (w' : World) (s' : Sl) (o' : Opm) (K' B' : Nat → Prop) (cv' : Value) (M' : Nat), M' ≤ M + 1 → Sq 600 s u1.o s' o' → LT w' K' lb d 600 M' s' → Ob w' B' u1.b lb cv' o' → Nx wr w' K u1.B K' B' → (decide (o'.st = 5) = true → Gm w w' lb d (M + 1) K' s' vi ins vm met [u0] ∧ Gp s' ins met u0 none k (t + 1)) ∧ (decide (o'.st = 5) = false → ∃ u1' : Un, u1'.b = u1.b ∧ Gm w w' lb d (M + 1) K' s' vi ins vm met [u0, u1'] ∧ Gp s' ins met u0 (some u1') k (t + 1)) := fun w' s' o' K' B' cv' M' hM' hs hl ho hN => by
      have g1 := (G.went (f := none) hu hl ho hN).up hM'
      obtain ⟨p1, p2⟩ := P.step1 (B' := B') (cv' := cv') hb hr hok hl.ok hnd ht hs
      refine ⟨fun q => ⟨hless g1, p2 (of_decide_eq_true q)⟩, fun q => ⟨{ u1 with o := o', B := B', cv := cv', fin := none }, rfl, g1, p1 (of_decide_eq_false q)⟩⟩
    by_cases h4 : u1.o.st = 4
    · obtain ⟨q1, q2, q3⟩ := hr.four h4
      obtain ⟨c1, c2, c3⟩ := hr.cs q1
      obtain ⟨c, rest, ec⟩ : ∃ c rest, u1.o.cs = c :: rest := by
        cases hcs : u1.o.cs with
        | nil => exact absurd hcs q2
        | cons c rest => exact ⟨c, rest, rfl⟩
      have hl8 : u1.o.cs.length ≤ 8 := by
        have := (hr.h (P.r1 u1 rfl).1).1; have := hgt_bd u1.x.h; omega
      refine (G.ht.give hou hKB h4 ec c1 c2 (by omega)).mono ?_
      rintro e w' ⟨cv', rfl, h2, h3, hN⟩
      have := key _ _ _ _ _ _ M (Nat.le_succ _) (.give c rest h4 ec) h2 h3 hN
      refine ⟨_, _, K, ?_, this⟩
      show _ = Ending.returned (.bool (decide ((if rest.length = 0 then 5 else 4) = 5)))
      by_cases e0 : rest.length = 0
      · rw [if_pos e0]; simp [e0]
      · rw [if_neg e0]; simp [e0]
    · have hst : u1.o.st = 1 ∨ u1.o.st = 2 ∨ u1.o.st = 3 := by rcases hr.st with q9 | q9 | q9 | q9 <;> omega
      refine (G.ht.step hou hKB (hr.oi h4) hst (fun _ _ => P.room hok hnd) (by omega)).mono ?_
      rintro e w' ⟨s', o', K', B', cv', rfl, h1, h2, h3, hN⟩
      exact ⟨_, s', K', rfl, key _ _ _ _ _ _ _ (Nat.le_refl _) (.stp _ _ h4 h1) h2 h3 hN⟩
  · have h0 : u1.o.st = 0 := by rw [e1]; exact (opA_bad u1.x hb).1
    have hub := hou.kk u1.b (.inl rfl)
    refine (G.ht.refuse hou.om (hko u1.b hub).1 (fun e => by have := (hko u1.b hub).2.1; have := G.b0; omega) h0).mono ?_
    rintro e w' ⟨rfl, h1, h2, hF⟩
    have hO : Ob w' u1.B u1.b lb u1.cv { u1.o with code := 100, st := 5 } := by
      refine ⟨h2, hrow_fr hou.row hF (fun j e q => ?_), hou.b0, hou.kk, fun j hj => Nat.lt_of_lt_of_le (hou.kl j hj) hF.size⟩
      obtain ⟨c9, fz9, hb9⟩ := Hr.kind hou.row e
      have hom := hou.om
      unfold Om at hom
      rw [q] at hb9
      rw [hom] at hb9
      simp at hb9
    have g1 := (G.went (f := none) hu (h1.up (Nat.le_succ M)) hO (Nx.same hKB (hF.mono (fun j _ e => .inr (by rw [e]; exact hub)))))
    exact ⟨true, s, K, rfl, fun _ => ⟨hless g1, P.bad1 hb ht⟩, fun c => (by cases c)⟩
theorem step_own (G : Gm w wr lb d M K s vi ins vm met (u0 :: l1)) (P : Gp s ins met u0 ot k t) (hM : M < 1000000000000) :
    Calls Tryd.prog 20 #[.pointer (some ⟨u0.b, 0, none⟩)] wr fun e w' => ∃ (b : Bool) (u0' : Un) (K' : Nat → Prop), e = .returned (.bool b) ∧ u0'.b = u0.b ∧ u0'.x = u0.x ∧ Gm w w' lb d (M + 1) K' s vi ins vm met (u0' :: l1) ∧
      (b = false → Gp s ins met u0' ot k (t + 1)) ∧
      (b = true → u0'.o.st = 5 ∧ u0'.o.code = 0 ∧ u0'.o.fk.size ≤ 16 ∧ (u0'.o.had = true → ¬ Blw u0'.o.fk u0.x.key) ∧ (u0'.o.had = false → ∀ a ∈ ins, a.key ∈ met) ∧
        (u0'.o.had = true → ∀ (b : Nat) (B : Nat → Prop) (cv : Value) (bg : Nat), Gp s ins (met ++ [u0'.o.fk]) ⟨xN (u0'.o.fk ++ nul), opA (xN (u0'.o.fk ++ nul)), b, B, cv, bg, none⟩ ot k (t + 1))) := by
  have hu : (u0 :: l1 : List Un)[0]? = some u0 := rfl
  have hum := List.mem_of_getElem? hu
  have hou := G.ops u0 hum
  have hko := G.ko u0 hum
  have hKB : ∀ j, K j → ¬ u0.B j := fun j hj hb => (hko j hb).1 hj
  have hok := G.ht.ok
  have hnd := G.ht.nd
  obtain ⟨a1, a2, a3, a4⟩ := P.r0.next1 P.k0
  refine (G.ht.step hou hKB (P.r0.oi (by omega)) (.inl a1) (fun q _ => by omega) (by omega)).mono ?_
  rintro e w' ⟨s', o', K', B', cv', rfl, h1, h2, h3, hN⟩
  have hs : Sq 600 s u0.o s' o' := .stp _ _ (by omega) h1
  have es := next_same P.r0 P.k0 hs
  subst es
  have g1 := G.went (f := none) hu h2 h3 hN
  refine ⟨_, { u0 with o := o', B := B', cv := cv', fin := none }, K', rfl, rfl, rfl, g1, fun q => P.step0 hok hnd hs (of_decide_eq_false q), fun q => ?_⟩
  exact ⟨of_decide_eq_true q, P.done0 hok hnd hs (of_decide_eq_true q)⟩
end
end
end Go.Proofs.YtopihgdbfhiejaaDoor
