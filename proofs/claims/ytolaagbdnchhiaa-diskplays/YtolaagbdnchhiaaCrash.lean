/-
  What a crash leaves of a disk.
-/
import Derived.Test.YtolaagbdnchhiaaDisk9
set_option linter.unusedVariables false
set_option linter.unusedSimpArgs false
namespace Go.Proofs.Ytolaagbdnchhiaa
open Go.RowKit Go.Maps

/-- What a name of the directory ahead of the crash leads to, and what the same name leads to behind it. -/
def Left (w w' : World) (E L : DataW Value) (ke te : Int) (B : Nat) (s : ByteArray) : Prop :=
  ∀ f ao len cap xs sy, (∀ zd, E.atKey (kl s) zd = pt f) → Fl w f (.slice ao len cap) sy → Sl w ao len cap xs →
    ∃ f' v, (∀ zd, L.atKey (kl s) zd = pt f') ∧ B ≤ f' ∧ Fl w' f' v (sy + shr ke (len - sy)) ∧ Own w' B v (turnL (xs.take (sy + shr ke (len - sy))) (shr te (shr ke (len - sy))))

/-- So far, of those that are no longer to come. -/
def LL (w u : World) (E L : DataW Value) (ke te : Int) (left : Lit → Bool) : Prop :=
  (∀ k, Maps.has L k = (Maps.has E k && !left k)) ∧ ∀ s, left (kl s) = false → Left w u E L ke te w.heap.size s

theorem LL.start {w u : World} {E : DataW Value} {ke te : Int} : LL w u E (.map []) ke te (Maps.has E) := by
  refine ⟨fun k => by cases Maps.has E k <;> rfl, fun s hs f ao len cap xs sy he => ?_⟩
  have := has_true_of_atKey he
  rw [this] at hs
  cases hs

theorem Left.keep {w u u' : World} {E L L' : DataW Value} {ke te : Int} {B : Nat} {s : ByteArray} (h : Left w u E L ke te B s) (hk : ∀ (j : Nat) (cur : Array Value) (t : TypeId) (fr : Nat × Nat), u.heap[j]? = some (Obj.cells cur t fr) → u'.heap[j]? = u.heap[j]?) (ha : ∀ zd, L'.atKey (kl s) zd = L.atKey (kl s) zd) : Left w u' E L' ke te B s := by
  intro f ao len cap xs sy h1 h2 h3
  obtain ⟨f', v, a1, a2, a3, a4⟩ := h f ao len cap xs sy h1 h2 h3
  refine ⟨f', v, fun zd => (ha zd).trans (a1 zd), a2, (hk _ _ _ _ a3).trans a3, row_same a4 fun j e => ?_⟩
  obtain ⟨cur, hh, _⟩ := row_block a4 e
  exact hk _ _ _ _ hh

theorem Sl.unique {w : World} {ao : Option Addr} {len cap : Nat} {xs ys : List Int} (h : Sl w ao len cap xs) (h' : Sl w ao len cap ys) : xs = ys := by
  obtain ⟨h1, _, _, _, _, h6⟩ := h
  obtain ⟨k1, _, _, _, _, k6⟩ := h'
  apply List.ext_getElem (by omega)
  intro i hi hi'
  obtain ⟨b, off, e, _, hc⟩ := h6 (by omega)
  obtain ⟨b', off', e', _, hc'⟩ := k6 (by omega)
  rw [e] at e'
  cases e'
  have := (hc i (by omega)).symm.trans (hc' i (by omega))
  simpa [List.getD, List.getElem?_eq_getElem hi, List.getElem?_eq_getElem hi'] using this

theorem own_below {w w' : World} {b n : Nat} {D : DataW Value} (h : w.ownsMap Try.prog 9 RV b n D) (hb : Below w.heap.size w w') : w'.ownsMap Try.prog 9 RV b n D :=
  h.kept (row := none) ⟨hb.os, hb.tape, hb.output, hb.size, fun j hj _ => hb.block j hj⟩ (by simp)

theorem pt_inj {f g : Nat} (h : pt f = pt g) : f = g := by simpa [pt] using h

theorem LL.step {w u u' : World} {E L : DataW Value} {ke te : Int} {left : Lit → Bool} (h : LL w u E L ke te left) (hm : IsMap L) (hk : ∀ (j : Nat) (cur : Array Value) (t : TypeId) (fr : Nat × Nat), u.heap[j]? = some (Obj.cells cur t fr) → u'.heap[j]? = u.heap[j]?)
    {s : ByteArray} (hi : WideAt.IsKeyLit (kl s)) (hE : Maps.has E (kl s) = true) {f f' len cap sy : Nat} {ao : Option Addr} {xs : List Int} {v : Value} (hEf : ∀ zd, E.atKey (kl s) zd = pt f) (hF : Fl w f (.slice ao len cap) sy) (hX : Sl w ao len cap xs)
    (hf : w.heap.size ≤ f') (hfl : Fl u' f' v (sy + shr ke (len - sy))) (hown : Own u' w.heap.size v (turnL (xs.take (sy + shr ke (len - sy))) (shr te (shr ke (len - sy))))) :
    LL w u' E (L.put (kl s) (pt f')) ke te (fun z => left z && !z.sameKey (kl s)) := by
  refine ⟨fun k => ?_, fun s' hs' => ?_⟩
  · by_cases e : k = kl s
    · subst e
      show _ = (Maps.has E (kl s) && !(left (kl s) && !(kl s).sameKey (kl s)))
      rw [has_put_same hm hi, hE, WideAt.sameKey_self hi]
      simp
    · show _ = (Maps.has E k && !(left k && !k.sameKey (kl s)))
      rw [has_put_other e, h.1 k, sameKey_ne e]
      simp
  · by_cases e : kl s' = kl s
    · intro g ao' len' cap' ys sy' h1 h2 h3
      rw [e] at h1 ⊢
      obtain rfl : g = f := pt_inj ((h1 no).symm.trans (hEf no))
      have e2 := h2.symm.trans hF
      simp at e2
      obtain ⟨⟨rfl, rfl, rfl⟩, e3⟩ := e2
      obtain rfl : sy' = sy := by omega
      obtain rfl := h3.unique hX
      exact ⟨f', v, fun zd => atKey_put_same hm hi _ _, hf, hfl, hown⟩
    · refine Left.keep (h.2 s' ?_) hk (fun zd => atKey_put_other e _ _)
      change (left (kl s') && !(kl s').sameKey (kl s)) = false at hs'
      rw [sameKey_ne e] at hs'
      simpa using hs'

theorem key_inv {x : Value} {l : Lit} (h : keyOf Try.prog 9 x = some l) : ∃ s : ByteArray, x = .string s ∧ l = kl s ∧ s.size ≤ maxLen := by
  cases x <;> simp [keyOf, Try.underlying9, mapKey] at h
  rename_i s
  exact ⟨s, rfl, h.2.symm, h.1⟩

set_option maxHeartbeats 4000000 in
set_option maxRecDepth 100000 in
theorem crash_any {w : World} {d B : Nat} {sb : Option Nat} {now sv : Value} {ops cutAt : Int} {cuts gone : Bool} {Ds : DataW Value} {cs : List Value} {chs : List Ch}
    (h : Dk w d now (.map sb) sv ops cutAt cuts gone) (hs : Dir w sb Ds) (hDs : Maps.size Ds ≤ 1000) (hrow : w.ownsRow B 83 1 sv chs.length cs) (hlen : chs.length ≤ 100000)
    (hcs : ∀ (i : Nat) (ch : Ch), chs[i]? = some ch → ∃ c, cs[i]? = some c ∧ ChAt w c ch)
    (ke di te : Int) (n : Nat) (hn : n = shr di chs.length) (E : DataW Value) (hE : E = runs (chs.take n) (dn Ds)) (hgood : ∀ k, k ≤ n → Good (runs (chs.take k) (dn Ds)))
    (hfine : ∀ s : ByteArray, Maps.has E (kl s) = true → ∃ f ao len cap xs sy, (∀ zd, E.atKey (kl s) zd = pt f) ∧ Fl w f (.slice ao len cap) sy ∧ Sl w ao len cap xs ∧ sy ≤ len ∧ len ≤ 262144) :
    Calls Try.prog 21 #[.pointer (some ⟨d, 0, none⟩), .agg #[.int .i64 ke, .int .i64 di, .int .i64 te]] w fun e w' =>
      ∃ d' nb sb' L, e = .returned (.pointer (some ⟨d', 0, none⟩)) ∧ w.heap.size ≤ d' ∧ w.heap.size ≤ nb ∧ w.heap.size ≤ sb' ∧ nb ≠ sb' ∧ Dk w' d' (.map (some nb)) (.map (some sb')) (.slice none 0 0) 0 0 false false ∧ w'.ownsMap Try.prog 9 RV nb (Maps.size E) L ∧ w'.ownsMap Try.prog 9 RV sb' (Maps.size L) L ∧
        (∀ k, Maps.has L k = Maps.has E k) ∧ (∀ s, Left w w' E L ke te w.heap.size s) ∧ Below w.heap.size w w' := by
  have hlt := h.lt
  have hjs : ∀ j, sb = some j → j < w.heap.size := fun j e => by
    rcases hs with ⟨rfl, _⟩ | ⟨b, n, rfl, ho⟩
    · cases e
    · cases e; exact ho.lt
  have b0 : Below w.heap.size w (w.alloc (.cells #[.int .i64 ke, .int .i64 di, .int .i64 te] 34)) := (Below.refl _ _).alloc (Nat.le_refl _) _
  have hfa : (w.alloc (.cells #[.int .i64 ke, .int .i64 di, .int .i64 te] 34)).heap[w.heap.size]? = some (.cells #[.int .i64 ke, .int .i64 di, .int .i64 te] 34 (0, 0)) := heap_alloc_new w _
  have hs0 : (w.alloc (.cells #[.int .i64 ke, .int .i64 di, .int .i64 te] 34)).heap.size = w.heap.size + 1 := by simp
  have h0 : Dk (w.alloc (.cells #[.int .i64 ke, .int .i64 di, .int .i64 te] 34)) d now (.map sb) sv ops cutAt cuts gone := h.same (b0.block d hlt)
  have hcop := copied_any (Dir.same hs fun j e => b0.block j (hjs j e)) (by omega)
  obtain ⟨c0, c1, c2, c3, c4, c5, c6⟩ := h0.cells
  obtain ⟨ao, cap, rfl, hcap, hcm, hcl, hsl, hcell⟩ := row_slice hrow
  have hnle : n ≤ chs.length := by rw [hn]; exact shr_le _ _
  go_enter Try.func21, Try.ntmps21
  go_wp2_with fail
  refine hcop.mono ?_
  rintro e w1 ⟨b, rfl, hb, ho1, b1⟩
  have B1 : Below w.heap.size w w1 := b0.trans (b1.mono (by omega))
  have s1 := b1.size
  have h1 : Dk w1 d now (.map sb) (.slice ao chs.length cap) ops cutAt cuts gone := h.same (B1.block d hlt)
  have fa1 : w1.heap[w.heap.size]? = some (.cells #[.int .i64 ke, .int .i64 di, .int .i64 te] 34 (0, 0)) := (b1.block _ (by omega)).trans hfa
  clear c0 c1 c2 c3 c4 c5 c6 hcop h0 hfa b0
  obtain ⟨c0, c1, c2, c3, c4, c5, c6⟩ := h1.cells
  have k0 : w1.cell? ⟨w.heap.size, 1, none⟩ = some (.int .i64 di) := by rw [Go.Joins.cell_of_block fa1]; rfl
  have hsh : ∀ q, Calls Try.prog 51 #[.int .i64 di, .int .i64 (chs.length : Int)] (w1.drewN q) fun e w' => e = .returned (.int .i64 (n : Int)) ∧ w' = w1.drewN q := fun q => by
    have := share_any di chs.length (w1.drewN q)
    rw [← hn] at this
    exact this
  have hsln := hsl n hnle
  have HN := hide2 hn
  have HE := hide2 hE
  clear hn hE hsl
  go_wp2
  go_quiet ((go_at_call 51; exact Calls.quiet_of_same (hsh _)))
  clear hsh hsln
  have B2 : Below w.heap.size w (w1.drewN nq) := ⟨B1.os, B1.tape, B1.output, B1.size, B1.block⟩
  have fa2 : (w1.drewN nq).heap[w.heap.size]? = some (.cells #[.int .i64 ke, .int .i64 di, .int .i64 te] 34 (0, 0)) := fa1
  have ho2 : (w1.drewN nq).ownsMap Try.prog 9 RV b (Maps.size Ds) (dn Ds) := ho1
  have s2 : w.heap.size + 1 ≤ (w1.drewN nq).heap.size := by show _ ≤ w1.heap.size; omega
  have hb2 : w.heap.size + 1 ≤ b := by omega
  clear fa1 ho1 s1 b1 B1 h1 c0 c1 c2 c3 c4 c5 c6 k0
  generalize w1.drewN nq = w2 at B2 fa2 ho2 s2 ⊢
  have hn63 : (n : Int) ≤ 100000 := by omega
  go_wp2
  go_loopw [7, 32] (fun _ i wr => ∃ k : Nat, k ≤ n ∧ i = .int .i64 (k : Int) ∧ wr.ownsMap Try.prog 9 RV b (Maps.size Ds + k) (runs (chs.take k) (dn Ds)) ∧ w2.grownBy wr (some b)) (fun _ i _ => n - (intOf i).toNat)
  case atStart => exact ⟨0, by omega, rfl, by simpa [runs] using ho2, World.grownBy.refl _ _⟩
  case round =>
    obtain ⟨k, hk, rfl, hok, hgk⟩ := hrel
    have Bk : Below w.heap.size w wr := B2.grown hgk (by omega) (fun j e => by cases e; omega)
    by_cases hkl : k < n
    · obtain ⟨ch, hch⟩ : ∃ ch, chs[k]? = some ch := ⟨chs[k], List.getElem?_eq_getElem (by omega)⟩
      obtain ⟨c, hc1, hc2⟩ := hcs k ch hch
      obtain ⟨g, rfl, hgc, hgl, _⟩ := hcell k c hc1
      have hg1 : wr.cell? ⟨g, k, none⟩ = some c := (Bk.cell (p := ⟨g, k, none⟩) hgl).trans hgc
      have hc3 : ChAt wr c ch := hc2.same fun j v t hb => Bk.block j hb.lt
      obtain ⟨g', cb, rfl, eg, hcall⟩ := act_any hc3 hok (by omega) (hgood k (by omega))
      rw [← runs_take chs k ch hch] at hcall
      have hk1 : (k : Int) < (n : Int) := by omega
      have Hcall := hide2 hcall
      have HG := hide2 hgk
      clear hcall hok hgk Bk hc3 hc2 hc1 hgc hcell hcs hgood hfine HE HN ho2 B2 fa2 hs hrow
      go_wp2_with fail
      refine Hcall.out.mono ?_
      rintro e w3 ⟨rfl, o3, g3⟩
      have O3 := hide2 o3
      have G3 := hide2 (HG.out.andThen g3 (fun j hj => .inr hj))
      clear o3 g3 Hcall HG eg
      go_wp2
      go_roundw
      case rel => exact ⟨k + 1, by omega, by go_num, O3.out, G3.out⟩
      case measure => simp [intOf]; omega
    · obtain rfl : k = n := by omega
      rw [← HE.out] at hok
      have sk := hgk.size
      have fak : wr.heap[w.heap.size]? = some (.cells #[.int .i64 ke, .int .i64 di, .int .i64 te] 34 (0, 0)) := (hgk.block _ (by omega) (by simp; omega)).trans fa2
      have hEs := hok.size_le
      have hlenE := hok.len Try.underlying58 3
      have hmk := makeMapN (Maps.size E) wr
      have bl := hok.lt
      have okA := hok.alloc (.map #[] 0)
      have omade := World.ownsMap_made wr Try.prog 9 RV
      have faA : (wr.alloc (.map #[] 0)).heap[w.heap.size]? = some (.cells #[.int .i64 ke, .int .i64 di, .int .i64 te] 34 (0, 0)) := (Below.heap_alloc _ _ _ (by omega)).trans fak
      have BA : Below w.heap.size w (wr.alloc (.map #[] 0)) := Bk.alloc (by omega) _
      have sA : (wr.alloc (.map #[] 0)).heap.size = wr.heap.size + 1 := by simp
      have HFA := hide2 faA
      have HBA := hide2 BA
      have HOM := hide2 omade
      clear hok hgk fa2 ho2 B2 Bk fak hcell hcs hgood HE HN faA BA omade hrow
      go_wp2_with (first
        | (at_range; refine wpList_range_own _ rfl _ 58 rfl 9 77 dirKeyed Try.underlying58 RV b _ _ rfl okA ?_; intro w5 hrg5 hg5 hs5)
        | go_in)
      go_frame
      rw [sA] at hrg5 hs5
      have om5 := HOM.out.kept hg5 (by simp)
      have fa5 : w5.heap[w.heap.size]? = some (.cells #[.int .i64 ke, .int .i64 di, .int .i64 te] 34 (0, 0)) := (hg5.block _ (by rw [sA]; omega) (by simp)).trans HFA.out
      have B5 : Below w.heap.size w w5 := HBA.out.trans ⟨hg5.os, hg5.tape, hg5.output, hg5.size, fun j hj => hg5.block j (by rw [sA]; omega) (by simp)⟩
      clear HOM HFA HBA hg5 okA hmk hlenE
      obtain ⟨M, hM⟩ : ∃ M, M = wr.heap.size := ⟨_, rfl⟩
      rw [sA]
      rw [← hM] at hrg5 hs5 om5 bl sk ⊢
      clear hM sA
      go_loopw [45] (fun _ u => ∃ (left : Lit → Bool) (cnt : Nat) (L : DataW Value), u.ranges Try.prog 9 RV b (M + 1) (Maps.size Ds + k) E left cnt ∧ cnt ≤ Maps.size E ∧ u.ownsMap Try.prog 9 RV M (Maps.size E - cnt) L ∧
          u.heap[w.heap.size]? = some (.cells #[.int .i64 ke, .int .i64 di, .int .i64 te] 34 (0, 0)) ∧ LL w u E L ke te left ∧ Below w.heap.size w u) (fun _ u => u.rangeLeft b (M + 1))
      case atStart => exact ⟨_, _, .map [], hrg5, Nat.le_refl _, by simpa using om5, fa5, LL.start, B5⟩
      case round =>
        obtain ⟨left, cnt, L, hrg, hcnt, hol, fau, hLL, Bu⟩ := hrel
        have hul := hol.lt
        go_wp2_with (first
          | (at_next; refine wpList_next_ranges _ rfl _ rfl 9 dirKeyed RV id id (fun key _ _ => ⟨key, rfl⟩) (fun v _ _ => ⟨v, rfl⟩) b (M + 1) _ _ _ _ rfl hrg ?_ ?_)
          | go_in)
        · intro hc0 hl0
          have hLs := hol.size_le
          have hcop := copied_any (mb := some M) (.inr ⟨M, _, rfl, hol⟩) (by omega)
          have hdn := own_dn hol
          rw [hdn] at hcop
          have HOL := hide2 hol
          have HLL := hide2 hLL
          have HB := hide2 Bu
          have HRG := hide2 hrg
          clear hdn hol hLL Bu hrg fau hfine B5 fa5 om5 hrg5 hs
          go_wp2_with fail
          refine hcop.mono ?_
          rintro e w9 ⟨sb', rfl, hsb, o9, b9⟩
          have s9 := b9.size
          go_wp2
          go_ret
          have hkeep : ∀ (j : Nat) (cur : Array Value) (t : TypeId) (fr : Nat × Nat), wr.heap[j]? = some (Obj.cells cur t fr) → (w9.alloc (.cells #[.map (some M), .map (some sb'), .slice none 0 0, .int .i64 0, .bool false, .int .i64 0, .bool false] 61)).heap[j]? = wr.heap[j]? := fun j cur t fr hj => by
            have hjl := (Array.getElem?_eq_some_iff.1 hj).1
            exact (Below.heap_alloc _ _ j (by omega)).trans (b9.block j hjl)
          have hl := o9.lt
          refine ⟨_, M, sb', L, rfl, by omega, by omega, by omega, by omega, heap_alloc_new _ _, ?_, o9.alloc _, fun q => ?_, fun s => Left.keep (HLL.out.2 s (hl0 _)) hkeep (fun _ => rfl), HB.out.trans ((b9.mono (by have := HB.out.size; omega)).alloc (by have := HB.out.size; omega) _)⟩
          · exact ((own_below HOL.out b9).mono (by omega)).alloc _
          · rw [HLL.out.1 q, hl0 q]; simp
        · intro x c kl' yd yp w6 cnt1 hkey hlx hv hat hrg1 hlt1 hg1 hs1 hen
          obtain ⟨s, rfl, rfl, hss⟩ := key_inv hkey
          have hhas := has_true_of_atKey hat
          obtain ⟨f, aof, len, capf, xs, sy, hEf, hF, hX, hsy, hlf⟩ := hfine s hhas
          obtain rfl : c = .pointer (some ⟨f, 0, none⟩) := by
            simp only [RV, Option.some.injEq, Prod.mk.injEq] at hv
            have e := (hat no).symm.trans (hEf no)
            rw [← hv.1] at e
            simpa [pt] using e
          have B6 : Below w.heap.size w w6 := Bu.grown hg1 (by have := Bu.size; omega) (fun j e => by cases e; omega)
          have fa6 : w6.heap[w.heap.size]? = some (.cells #[.int .i64 ke, .int .i64 di, .int .i64 te] 34 (0, 0)) := (hg1.block _ (by omega) (by simp; omega)).trans fau
          have hF6 : Fl w6 f (.slice aof len capf) sy := (B6.block f hF.lt).trans hF
          have hX6 := hX.below B6
          have hcr := crashed_any hF6 hX6 hsy hlf ke di te
          have z0 : w6.cell? ⟨w.heap.size, 0, none⟩ = some (.int .i64 ke) := by rw [Go.Joins.cell_of_block fa6]; rfl
          have z1 : w6.cell? ⟨w.heap.size, 1, none⟩ = some (.int .i64 di) := by rw [Go.Joins.cell_of_block fa6]; rfl
          have z2 : w6.cell? ⟨w.heap.size, 2, none⟩ = some (.int .i64 te) := by rw [Go.Joins.cell_of_block fa6]; rfl
          have HRG := hide2 hrg
          have HOL := hide2 hol
          have HLL := hide2 hLL
          have HRG1 := hide2 hrg1
          have HB6 := hide2 B6
          have HFA := hide2 fa6
          have HHAS := hide2 hhas
          have HEf := hide2 hEf
          clear hrg hol hLL hrg1 B6 fa6 hhas hEf hat hfine hF6 hX6 fau Bu B5 fa5 om5 hrg5 hs hlx
          go_wp2_with fail
          refine hcr.mono ?_
          rintro e w7 ⟨f', v, rfl, hf', fl7, own7, b7⟩
          have s7 := b7.size
          have hol6 := HOL.out.kept hg1 (by simp)
          have hl6 := hol6.lt
          obtain ⟨w8, hrun, hol8, hg8⟩ := (own_below hol6 b7).update dirKeyed Try.underlying58 (by unfold maxLen; omega) (key_str s hss) (val := .pointer (some ⟨f', 0, none⟩)) rfl
          have hiter : ∀ (j : Nat) (cur : Array Value) (t : TypeId) (fr : Nat × Nat), wr.heap[j]? = some (Obj.cells cur t fr) → j ≠ M + 1 ∧ j ≠ M ∧ j < wr.heap.size := fun j cur t fr hj => by
            refine ⟨?_, own_not_cells HOL.out hj, (Array.getElem?_eq_some_iff.1 hj).1⟩
            obtain ⟨_, _, _, _, _, _, _, _, _, hit, _⟩ := HRG.out
            rintro rfl
            rw [hj] at hit
            cases hit
          have hkeep : ∀ (j : Nat) (cur : Array Value) (t : TypeId) (fr : Nat × Nat), wr.heap[j]? = some (Obj.cells cur t fr) → w8.heap[j]? = wr.heap[j]? := fun j cur t fr hj => by
            obtain ⟨q1, q2, q3⟩ := hiter j cur t fr hj
            exact (hg8.block j (by omega) (by simpa using q2)).trans ((b7.block j (by omega)).trans (hg1.block j q3 (by simpa using q1)))
          have hol8' := hide2 hol8
          have s8 := hg8.size
          have hfM : f' ≠ M := own_not_cells (own_below hol6 b7) fl7
          have fl8 : Fl w8 f' v (sy + shr ke (len - sy)) := (hg8.block f' fl7.lt (by simpa using hfM)).trans fl7
          have own8 : Own w8 w.heap.size v (turnL (xs.take (sy + shr ke (len - sy))) (shr te (shr ke (len - sy)))) := by
            refine Go.Joins.ownsRow_le (row_same own7 fun j e => ?_) (by have := HB6.out.size; omega)
            obtain ⟨cur, hh, _, hl⟩ := row_block own7 e
            exact hg8.block j hl (by simpa using own_not_cells (own_below hol6 b7) hh)
          have hLL8 := hide2 (HLL.out.step HOL.out.isMap hkeep (dirKeyed.key hkey) HHAS.out HEf.out hF hX (by have := HB6.out.size; omega) fl8 own8)
          have hrg8 := hide2 ((HRG1.out.kept (row := none) ⟨b7.os, b7.tape, b7.output, b7.size, fun j hj _ => b7.block j hj⟩ (by simp) (by simp)).kept hg8 (by simp; omega) (by simp))
          have B8 := hide2 ((HB6.out.trans (b7.mono HB6.out.size)).grown hg8 (by have := HB6.out.size; omega) (fun j e => by cases e; omega))
          have fa8 := hide2 ((hg8.block _ (by omega) (by simp; omega)).trans ((b7.block _ (by omega)).trans HFA.out))
          clear hol8 hg8 hkeep hiter own8 fl8 fl7 own7 b7 hol6 HFA HHAS HEf HLL hg1 hcr hX hF
          go_wp2
          go_roundw
          case rel => exact ⟨_, cnt1, _, hrg8.out, by omega, hol8'.out.mono (by omega), fa8.out, hLL8.out, B8.out⟩
          case measure => rw [hrg8.out.left_eq, HRG.out.left_eq]; exact hlt1
end Go.Proofs.Ytolaagbdnchhiaa
