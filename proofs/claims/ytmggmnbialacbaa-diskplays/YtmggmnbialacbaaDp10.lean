/-
  The law's own 'shown' of the disk returns true.
-/
import Derived.Test.YtmggmnbialacbaaDp9
import Derived.Lib.SlBytesConst
set_option linter.unusedVariables false
set_option linter.unusedSimpArgs false
namespace Go.Proofs.Ytmggmnbialacbaa
open Go.RowKit Go.Maps

set_option maxHeartbeats 400000 in
theorem new_any (w : World) : Calls Try.prog 9 #[] w fun e w' => e = .returned (.pointer (some ⟨w.heap.size, 0, none⟩)) ∧ w' = w.alloc (.cells #[.map none, .map none, .slice none 0 0, .int .i64 0, .bool false, .int .i64 0, .bool false] 61) := by
  go_enter Try.func9, Try.ntmps9
  go_wp2
  go_ret
  exact ⟨rfl, rfl⟩

def sa : ByteArray := ⟨#[97]⟩
theorem isName_a : isName sa = true := by decide +kernel
theorem isName_ab : isName ⟨#[97, 32, 98]⟩ = false := by decide +kernel
theorem isName_q : isName ⟨#[113]⟩ = true := by decide +kernel

/-- The directory of one file. -/
def D1 (f : Nat) : DataW Value := (DataW.map []).put (kl sa) (pt f)
theorem kl_key (s : ByteArray) : WideAt.IsKeyLit (kl s) := trivial
theorem D1_at (f : Nat) (z : DataW Value) : (D1 f).atKey (kl sa) z = pt f := atKey_put_same ⟨_, rfl⟩ (kl_key _) _ _
theorem D1_other (f : Nat) (k : Lit) (h : k ≠ kl sa) (z : DataW Value) : (D1 f).atKey k z = z := by
  unfold D1
  rw [atKey_put_other h]
  rfl
theorem D1_has (f : Nat) (k : Lit) (h : Maps.has (D1 f) k = true) : k = kl sa := by
  by_cases e : k = kl sa
  · exact e
  · unfold D1 at h
    rw [has_put_other e] at h
    cases h
theorem D1_good (f : Nat) : Good (D1 f) := fun s => by
  by_cases e : kl s = kl sa
  · rw [e, D1_at]; exact ⟨_, rfl⟩
  · rw [D1_other f _ e]; exact ⟨_, rfl⟩
theorem good_empty : Good (.map []) := fun s => ⟨none, rfl⟩
theorem kl_q : kl ⟨#[113]⟩ ≠ kl sa := fun e => by
  injection e with e
  simp [sa] at e
/-- What is known of the disk behind its first operation, in every world that has kept it. -/
structure Kept (u : World) (d B b f fb nb l cap : Nat) (ao : Option Addr) (sv : Value) : Prop where
  dk : Dk u d (.map (some b)) (.map none) sv 1 0 false false
  own : u.ownsMap Try.prog 9 RV b 1 (D1 f)
  fl : Fl u f (.slice ao l cap) 0
  sl : Sl u ao l cap [120, 121]
  row : u.ownsRow B 83 1 sv 1 [mkCl fb nb]
  nam : Box u nb (.string sa) 9
  poi : Box u fb (.pointer (some ⟨f, 0, none⟩)) 77

theorem Kept.below {u v : World} {d B b f fb nb l cap : Nat} {ao : Option Addr} {sv : Value} (h : Kept u d B b f fb nb l cap ao sv) (hb : Below u.heap.size u v) : Kept v d B b f fb nb l cap ao sv :=
  ⟨h.dk.same (hb.block _ h.dk.lt), own_below h.own hb, (hb.block _ h.fl.lt).trans h.fl, h.sl.below hb, row_same h.row fun j e => by
    obtain ⟨_, _, _, hl⟩ := row_block h.row e
    exact hb.block j hl, (hb.block _ h.nam.lt).trans h.nam, (hb.block _ h.poi.lt).trans h.poi⟩

set_option maxHeartbeats 1000000 in
theorem kept_crash {u : World} {d B b f fb nb l cap : Nat} {ao : Option Addr} {sv : Value} (h : Kept u d B b f fb nb l cap ao sv) :
    Calls Try.prog 21 #[.pointer (some ⟨d, 0, none⟩), .agg #[.int .i64 1, .int .i64 1, .int .i64 1]] u fun e w' =>
      ∃ d' nb' f' syn' ao' l' cap' sy' L, e = .returned (.pointer (some ⟨d', 0, none⟩)) ∧ Dk w' d' (.map (some nb')) syn' (.slice none 0 0) 0 0 false false ∧ w'.ownsMap Try.prog 9 RV nb' 1 L ∧ (∀ z, L.atKey (kl sa) z = pt f') ∧ Fl w' f' (.slice ao' l' cap') sy' ∧ Sl w' ao' l' cap' [135] ∧ Below u.heap.size u w' := by
  refine (crash_any (chs := [.mk sa f]) h.dk (.inl ⟨rfl, rfl⟩) (by decide) h.row (by simp) (fun i ch hi => ?_) 1 1 1 1 rfl (D1 f) rfl (fun k hk => ?_) (fun s hs => ?_)).mono ?_
  · match i, hi with
    | 0, hi =>
      cases hi
      exact ⟨_, rfl, fb, nb, rfl, h.nam, h.poi, by decide⟩
  · match k, hk with
    | 0, _ => exact good_empty
    | 1, _ => exact D1_good f
  · have e := D1_has f _ hs
    refine ⟨f, ao, l, cap, [120, 121], 0, fun zd => by rw [e]; exact D1_at f zd, h.fl, h.sl, Nat.zero_le _, ?_⟩
    have := h.sl.1
    simp at this
    omega
  · rintro e w' ⟨d', nb', sb', L, rfl, _, _, _, _, hdk, hown, _, _, hleft, hb⟩
    obtain ⟨f', v, a1, a2, a3, a4⟩ := hleft sa f ao l cap [120, 121] 0 (D1_at f) h.fl h.sl
    have hl : l = 2 := h.sl.1.symm
    subst hl
    have a5 : Own w' u.heap.size v [135] := a4
    obtain ⟨ao', l', cap', rfl, hsl, _⟩ := a5.sl' (Byt.cons (by decide) Byt.nil)
    exact ⟨d', nb', f', _, ao', l', cap', _, L, rfl, hdk, hown, a1, a3, hsl, hb⟩

set_option maxHeartbeats 1000000 in
theorem kept_lost {u : World} {d B b f fb nb l cap : Nat} {ao : Option Addr} {sv : Value} (h : Kept u d B b f fb nb l cap ao sv) :
    Calls Try.prog 21 #[.pointer (some ⟨d, 0, none⟩), .agg #[.int .i64 9, .int .i64 0, .int .i64 0]] u fun e w' =>
      ∃ d' nb' syn', e = .returned (.pointer (some ⟨d', 0, none⟩)) ∧ Dk w' d' (.map (some nb')) syn' (.slice none 0 0) 0 0 false false ∧ w'.ownsMap Try.prog 9 RV nb' 0 (.map []) ∧ Below u.heap.size u w' := by
  refine (crash_any (chs := [.mk sa f]) h.dk (.inl ⟨rfl, rfl⟩) (by decide) h.row (by simp) (fun i ch hi => ?_) 9 0 0 0 rfl (.map []) rfl (fun k hk => ?_) (fun s hs => by cases hs)).mono ?_
  · match i, hi with
    | 0, hi =>
      cases hi
      exact ⟨_, rfl, fb, nb, rfl, h.nam, h.poi, by decide⟩
  · obtain rfl : k = 0 := by omega
    exact good_empty
  · rintro e w' ⟨d', nb', sb', L, rfl, _, _, _, _, hdk, hown, _, hhas, _, hb⟩
    have hsz : Maps.size L ≤ 0 := hown.size_le
    obtain ⟨es, rfl⟩ := hown.isMap
    have hes : es = [] := List.eq_nil_of_length_eq_zero (by simpa [Maps.size] using hsz)
    subst hes
    exact ⟨d', nb', _, rfl, hdk, hown, hb⟩

set_option maxHeartbeats 4000000 in
set_option maxRecDepth 100000 in
/-- shown: true. -/
theorem shown_any (w : World) : Calls Try.prog 8 #[] w fun e w' => e = .returned (.bool true) ∧ Below w.heap.size w w' := by
  have kc := fun (w : World) (C : Array Value) (n c : Nat) => Lib.run_convert_bytes_const (P := Try.prog) w 32 5 C n c Try.underlying32 Try.underlying5
  go_enter Try.func8, Try.ntmps8
  go_wp2_with fail
  refine (new_any w).mono ?_
  rintro e w1 ⟨rfl, hw1⟩
  have b1 : Below w.heap.size w w1 := by rw [hw1]; exact (Below.refl _ _).alloc (Nat.le_refl _) _
  have s1 : w1.heap.size = w.heap.size + 1 := by rw [hw1]; simp
  have d1 : Dk w1 w.heap.size (.map none) (.map none) (.slice none 0 0) 0 0 false false := by rw [hw1]; exact heap_alloc_new w _
  clear hw1
  have hA : Below w1.heap.size w1 (w1.alloc (.cells #[.int .u8 120, .int .u8 121] 5 (2, 3))) := (Below.refl _ _).alloc (Nat.le_refl _) _
  have dA := d1.same (hA.block _ (by omega))
  have sA : (w1.alloc (.cells #[.int .u8 120, .int .u8 121] 5 (2, 3))).heap.size = w.heap.size + 2 := by simp [s1]
  have kc1 := kc w1 #[.int .u8 120, .int .u8 121] 2 2
  rw [s1] at kc1
  have slA : Sl (w1.alloc (.cells #[.int .u8 120, .int .u8 121] 5 (2, 3))) (some ⟨w.heap.size + 1, 0, none⟩) 2 2 [120, 121] := by
    rw [← s1]
    refine ⟨rfl, Nat.le_refl _, by unfold maxLen; omega, Byt.cons (by decide) (Byt.cons (by decide) Byt.nil), (fun e => by cases e), fun _ => ⟨w1.heap.size, 0, rfl, by simp, fun i hi => ?_⟩⟩
    rw [Nat.zero_add, World.cell?_alloc_mark]
    match i, hi with
    | 0, _ => rfl
    | 1, _ => rfl
  have hap := append_new (B := w.heap.size) dA ⟨rfl, .inl rfl⟩ (.inl ⟨rfl, rfl⟩) (World.ownsRow_nil _ _ _ _) (by omega) (by decide) (by decide) (by decide) (by decide) sa isName_a rfl (some ⟨w.heap.size + 1, 0, none⟩) 2 2 [120, 121] slA (by decide) (fun _ b off e => by
    cases e
    exact ⟨by omega, by simp, by simp [Value.ownBlock]⟩)
  clear dA kc
  go_wp2_with fail
  refine hap.mono ?_
  rintro e w2 ⟨f, nb, fb, b, sv', fv, rfl, g1, g2, g3, fl2, own2, rowb, n2, p2, hb2, dk2, map2, row2, blk2, F2⟩
  obtain ⟨ao, l, cap, rfl, sl2, _⟩ := own2.sl' slA.2.2.2.1
  have K2 : Kept w2 w.heap.size w.heap.size b f fb nb l cap ao sv' := ⟨dk2, map2, fl2, sl2, row2, n2, p2⟩
  have B2 : Below w.heap.size w w2 := (b1.trans (hA.mono (by omega))).trans (F2.to (fun k hk e => by
    rcases e with e | e | e
    · omega
    · cases e
    · simp [Value.ownBlock] at e) (by omega))
  clear hap fl2 own2 rowb n2 p2 hb2 dk2 map2 row2 blk2 F2 sl2 hA slA d1 kc1
  have hrd := read_ok K2.dk (.inr ⟨b, 1, rfl, K2.own⟩) sa isName_a f 0 (D1_at f no) ao l cap [120, 121] K2.fl K2.sl (by have := K2.sl.1; simp at this; omega)
  go_wp2_with fail
  refine hrd.mono ?_
  rintro e w3 ⟨v3, rfl, own3, b3⟩
  have K3 := K2.below b3
  have B3 : Below w.heap.size w w3 := B2.trans (b3.mono B2.size)
  clear hrd b3 K2 B2
  obtain ⟨ao3, l3, cap3, rfl, sl3, _⟩ := own3.sl' (Byt.cons (by decide) (Byt.cons (by decide) Byt.nil))
  clear own3
  go_wp2_with fail
  refine (kept_crash K3).mono ?_
  rintro e w4 ⟨d4, nb4, f4, syn4, ao4, l4, cap4, sy4, L4, rfl, dk4, map4, at4, fl4, sl4, b4⟩
  have K4 := K3.below b4
  have B4 : Below w.heap.size w w4 := B3.trans (b4.mono B3.size)
  have sl3' := sl3.below b4
  clear K3 B3 b4 sl3
  have hrd := read_ok dk4 (.inr ⟨nb4, 1, rfl, map4⟩) sa isName_a f4 sy4 (at4 no) ao4 l4 cap4 [135] fl4 sl4 (by have := sl4.1; simp at this; omega)
  go_wp2_with fail
  refine hrd.mono ?_
  rintro e w5 ⟨v5, rfl, own5, b5⟩
  have K5 := K4.below b5
  have B5 : Below w.heap.size w w5 := B4.trans (b5.mono B4.size)
  have sl3'' := sl3'.below b5
  obtain ⟨ao5, l5, cap5, rfl, sl5, _⟩ := own5.sl' (Byt.cons (by decide) Byt.nil)
  clear hrd K4 B4 b5 sl3' own5 dk4 map4 at4 fl4 sl4
  go_wp2_with fail
  refine (kept_lost K5).mono ?_
  rintro e w6 ⟨d6, nb6, syn6, rfl, dk6, map6, b6⟩
  have K6 := K5.below b6
  have B6 : Below w.heap.size w w6 := B5.trans (b6.mono B5.size)
  have sl36 := sl3''.below b6
  have sl56 := sl5.below b6
  clear K5 B5 b6 sl3'' sl5
  go_wp2_with fail
  refine (names_any dk6 map6 (by decide)).mono ?_
  rintro e w7 ⟨v7, ss, rfl, hperm, _, hnil, b7⟩
  obtain rfl : v7 = .slice none 0 0 := hnil.2 (List.perm_nil.1 hperm)
  have K7 := K6.below b7
  have B7 : Below w.heap.size w w7 := B6.trans (b7.mono B6.size)
  have sl37 := sl36.below b7
  have sl57 := sl56.below b7
  clear K6 B6 b7 sl36 sl56 hnil hperm dk6 map6
  have hl3 := sl37.1
  have hl5 := sl57.1
  simp only [List.length_cons, List.length_nil, Nat.reduceAdd, Nat.zero_add] at hl3 hl5
  subst hl3 hl5
  have hstr3 : (convert 32 9 (.slice ao3 2 cap3)).run Try.prog w7 = .ok (.string (strOfNums [120, 121])) w7 := sl37.str (P := Try.prog) 32 Try.underlying32 Try.underlying5 Try.underlying9
  have hstr5 : (convert 32 9 (.slice ao5 1 cap5)).run Try.prog w7 = .ok (.string (strOfNums [135])) w7 := sl57.str (P := Try.prog) 32 Try.underlying32 Try.underlying5 Try.underlying9
  have hops := ops_any K7.dk
  have hbad := append_bad K7.dk ⟨rfl, .inl rfl⟩ ⟨#[97, 32, 98]⟩ (by unfold maxLen; decide) isName_ab (.slice none 0 0)
  have e3 : (strOfNums [120, 121]).toList = [120, 121] := by decide +kernel
  have e5 : (strOfNums [135]).toList = [135] := by decide +kernel
  clear sl37 sl57
  go_wp2_with (first
    | (go_at_call 26; refine hops.mono ?_; rintro e w' ⟨rfl, rfl⟩)
    | fail)
  refine hbad.mono ?_
  rintro e w8 ⟨rfl, b8⟩
  have K8 := K7.below b8
  have B8 : Below w.heap.size w w8 := B7.trans (b8.mono B7.size)
  have hsy := sync_none K8.dk ⟨rfl, .inl rfl⟩ (.inr ⟨b, 1, rfl, K8.own⟩) ⟨#[113]⟩ isName_q (D1_other f _ kl_q no)
  clear hbad hops K7 B7 b8 hstr3 hstr5 e3 e5
  go_wp2_with fail
  refine hsy.mono ?_
  rintro e w9 ⟨rfl, q, rfl⟩
  clear hsy K8
  go_wp2
  go_ret
  exact ⟨rfl, B8.trans ⟨rfl, rfl, rfl, Nat.le_refl _, fun _ _ => rfl⟩⟩
end Go.Proofs.Ytmggmnbialacbaa
