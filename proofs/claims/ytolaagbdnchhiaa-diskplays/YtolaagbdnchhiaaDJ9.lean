/-
  DiskPlays' walk.
-/
import Derived.Test.YtolaagbdnchhiaaDJ8
import Derived.Test.YtolaagbdnchhiaaDiskPrefix
set_option linter.unusedVariables false
set_option linter.unusedSimpArgs false
namespace Go.Proofs.Ytolaagbdnchhiaa
open Go.RowKit Go.Maps

section
variable {w : World} {E : Nat → Prop} {x d r : Nat} {P : PD} {c : Int} {o : Bool}
theorem does_any (h : Jg w E d r P c o P c o) (hx : Wx w x d r) (hE : E x) (q : OpR) (ok : q.ok w) (hbl : q.bl ≤ 140737488351232) (hqe : 0 < q.bl → ∀ b off, q.bo = some ⟨b, off, none⟩ → E b ∧ b ≠ x) :
    Calls Try.prog 11 #[.pointer (some ⟨x, 0, none⟩), q.val] w fun e w' => e = .returned (.bool true) ∧ Dres w w' E x := by
  have hk := pk_lt q.kind
  have h1 : pk q.kind = 0 ∨ pk q.kind = 1 ∨ pk q.kind = 2 ∨ pk q.kind = 3 ∨ pk q.kind = 4 ∨ pk q.kind = 5 ∨ pk q.kind = 6 ∨ pk q.kind = 7 ∨ pk q.kind = 8 := by omega
  rcases h1 with h1 | h1 | h1 | h1 | h1 | h1 | h1 | h1 | h1
  · exact jd_append h hx hE q h1 ok.lo ok.hi ok.nam ok.sl hbl hqe
  · exact jd_read h hx hE q h1 ok.lo ok.hi ok.nam
  · exact jd_sync h hx hE q h1 ok.lo ok.hi ok.nam
  · exact jd_rename h hx hE q h1 ok.lo ok.hi ok.nam ok.tos
  · exact jd_delete h hx hE q h1 ok.lo ok.hi ok.nam
  · exact jd_syncDir h hx hE q h1 ok.lo ok.hi
  · exact jd_cutAt h hx hE q h1 ok.lo ok.hi
  · exact jd_poke h hx hE q h1 ok.lo ok.hi ok.nam
  · exact jd_crash h hx hE q h1 ok.lo ok.hi
end

/-- Both disks, new. -/
theorem jg_new {w : World} {d r : Nat} {E : Nat → Prop} (hd : Dk w d (.map none) (.map none) (.slice none 0 0) 0 0 false false) (hr : Rk w r (.slice none 0 0) (.slice none 0 0) (.slice none 0 0) (.slice none 0 0) 0 (-1) false) (hn : d ≠ r) (hE : ∀ j, E j → j < w.heap.size ∧ j ≠ d ∧ j ≠ r) :
    Jg w E d r PD.new (-1) false PD.new (-1) false := by
  have hdl := hd.lt
  have hrl : r < w.heap.size := (Array.getElem?_eq_some_iff.1 hr).1
  refine ⟨⟨fun _ => False, fun j => if j = r then .dsk else .out, 0, Land.dr_new d w hd _, ⟨_, _, _, _, fun _ => 0, fun _ => .slice none 0 0, ⟨hr, if_pos rfl, World.ownsRow_nil _ _ _ _, (fun g e => by cases e), World.ownsRow_nil _ _ _ _, (fun g e => by cases e), World.ownsRow_nil _ _ _ _, (fun g e => by cases e), World.ownsRow_nil _ _ _ _, (fun g e => by cases e), (fun i x e => by cases e), fun g e => ?_⟩⟩, (fun h => absurd h (by omega)), fun j hj => ?_, fun j e => ?_⟩, inv_new, inv_new⟩
  · by_cases hg : g = r
    · rw [hg]; exact hrl
    · exact absurd (if_neg hg) e
  · obtain rfl : j = d := hj.elim (fun e => e.elim) id
    exact ⟨hdl, if_neg hn, fun e => (hE j e).2.1 rfl⟩
  · exact ⟨if_neg (hE j e).2.2, (hE j e).1⟩

set_option maxRecDepth 100000 in
set_option maxHeartbeats 4000000 in
theorem plays_walk (ao : Option Addr) (len cap : Nat) (os : List OpR) (w : World) (h : Sc w ao len cap os) (hbs : ∀ q ∈ os, q.bl ≤ 140737488351232) :
    Calls Try.prog 3 #[.slice ao len cap] w fun e w' => e = .returned (.bool true) ∧ Below w.heap.size w w' := by
  have hlow := h.low
  have hlen : (len : Int) ≤ 9223372036854775807 := by have := h.2.1; have := h.2.2.1; unfold maxLen at this; omega
  have HH := hide2 h
  have HBS := hide2 hbs
  have HLOW := hide2 hlow
  clear h hbs hlow
  go_enter Try.func3, Try.ntmps3
  go_wp2_with fail
  refine (shown_any _).mono ?_
  rintro e w1 ⟨rfl, B1⟩
  go_wp2_with fail
  refine (new_any w1).mono ?_
  rintro e w2 ⟨rfl, hw2⟩
  have b12 : Below w1.heap.size w1 w2 := by rw [hw2]; exact (Below.refl _ _).alloc (Nat.le_refl _) _
  have s2 : w2.heap.size = w1.heap.size + 1 := by rw [hw2]; simp
  have k2 : Dk w2 w1.heap.size (.map none) (.map none) (.slice none 0 0) 0 0 false false := by rw [hw2]; exact heap_alloc_new w1 _
  clear hw2
  go_wp2_with fail
  refine (ref_new w2).mono ?_
  rintro e w3 ⟨rfl, k3, s3, b23⟩
  have b34 : Below w3.heap.size w3 (w3.alloc (.cells #[.pointer (some ⟨w1.heap.size, 0, none⟩), .pointer (some ⟨w2.heap.size, 0, none⟩)] 30)) := (Below.refl _ _).alloc (Nat.le_refl _) _
  have hWx : Wx (w3.alloc (.cells #[.pointer (some ⟨w1.heap.size, 0, none⟩), .pointer (some ⟨w2.heap.size, 0, none⟩)] 30)) w3.heap.size w1.heap.size w2.heap.size := heap_alloc_new w3 _
  have s4 : (w3.alloc (.cells #[.pointer (some ⟨w1.heap.size, 0, none⟩), .pointer (some ⟨w2.heap.size, 0, none⟩)] 30)).heap.size = w3.heap.size + 1 := by simp
  have sz1 := B1.size
  generalize hW : w3.alloc (.cells #[.pointer (some ⟨w1.heap.size, 0, none⟩), .pointer (some ⟨w2.heap.size, 0, none⟩)] 30) = W at *
  have kd : Dk W w1.heap.size (.map none) (.map none) (.slice none 0 0) 0 0 false false := (k2.same (b23.block _ (by omega))).same (b34.block _ (by omega))
  have kr : Rk W w2.heap.size (.slice none 0 0) (.slice none 0 0) (.slice none 0 0) (.slice none 0 0) 0 (-1) false := (b34.block _ (by omega)).trans k3
  have hJ : Jg W (fun j => j < w.heap.size ∨ j = w3.heap.size) w1.heap.size w2.heap.size PD.new (-1) false PD.new (-1) false := jg_new kd kr (by omega) (fun j e => by
    rcases e with e | e <;> refine ⟨?_, ?_, ?_⟩ <;> omega)
  have hB : Below w.heap.size w W := ((B1.trans (b12.mono sz1)).trans (b23.mono (by omega))).trans (b34.mono (by omega))
  have HJ := hide2 hJ
  have HWX := hide2 hWx
  have HB := hide2 hB
  have hxw : w.heap.size < w3.heap.size := by omega
  clear hJ hWx hB b12 b23 b34 k2 k3 kd kr B1 s2 s3 s4 sz1
  go_wp2
  try rw [hW]
  generalize w3.heap.size = x at *
  generalize w1.heap.size = d0 at *
  generalize w2.heap.size = r0 at *
  clear hW
  go_loopw [5] (fun i wr => ∃ k : Nat, k ≤ len ∧ k ≤ 200 ∧ i = .int .i64 (k : Int) ∧ (∃ d r P c o, Jg wr (fun j => j < w.heap.size ∨ j = x) d r P c o P c o ∧ Wx wr x d r) ∧ Below w.heap.size w wr) (fun i _ => len - (intOf i).toNat)
  case atStart => exact ⟨0, by omega, by omega, rfl, ⟨_, _, _, _, _, HJ.out, HWX.out⟩, HB.out⟩
  case round =>
    clear HJ HWX HB
    obtain ⟨k, hk, hk2, rfl, ⟨d, r, P, c, o, hj, hx⟩, hb⟩ := hrel
    by_cases hlt : k < len ∧ k < 200
    · obtain ⟨hlt, hlt2⟩ := hlt
      obtain ⟨h1, h2, h3, h4, h5⟩ := HH.out.below hb
      obtain ⟨b, off, rfl, hbl, hc⟩ := h5 (by omega)
      obtain ⟨q, hq⟩ : ∃ q, os[k]? = some q := ⟨os[k]'(by omega), List.getElem?_eq_getElem (by omega)⟩
      have hmem := List.mem_of_getElem? hq
      have c0 := hc k q hq 0 _ rfl
      have c1 := hc k q hq 1 _ rfl
      have c2 := hc k q hq 2 _ rfl
      have c3 := hc k q hq 3 _ rfl
      have c4 := hc k q hq 4 _ rfl
      have c5 := hc k q hq 5 _ rfl
      have c6 := hc k q hq 6 _ rfl
      have c7 := hc k q hq 7 _ rfl
      rw [Nat.add_zero] at c0
      have hd := does_any hj hx (.inr rfl) q (h4 q hmem) (HBS.out q hmem) (fun h0 b off e => by
        have := HLOW.out.2 q hmem h0 b off e
        exact ⟨.inl this, by omega⟩)
      unfold OpR.val at hd
      have HD := hide2 hd
      have HBK := hide2 hb
      have hi1 : (k : Int) < (len : Int) := by omega
      have hi2 : (k : Int) < 200 := by omega
      clear hd hc h1 h2 h3 h4 h5 hj hx hmem hq hb
      go_wp2_with fail
      refine HD.out.mono ?_
      rintro e w5 ⟨rfl, d5, r5, P5, c5', o5, hj5, hx5, F5⟩
      have hb5 : Below w.heap.size w w5 := HBK.out.trans (F5.to (fun j hj e => by
        rcases e with e | e
        · exact e (.inl hj)
        · omega) HBK.out.size)
      have HA := hide2 (alike_any hj5 hx5)
      have HJ5 := hide2 hj5
      have HX5 := hide2 hx5
      have HB5 := hide2 hb5
      clear HD HBK c0 c1 c2 c3 c4 c5 c6 c7 hj5 hx5 F5 hb5
      go_wp2_with fail
      refine HA.out.mono ?_
      rintro e w6 ⟨rfl, B6⟩
      have HJ6 := hide2 (HJ5.out.keep (Fr.below B6) (fun j e => .inl e))
      have HX6 := hide2 (HX5.out.below B6)
      have HB6 := hide2 (HB5.out.trans (B6.mono HB5.out.size))
      clear HA HJ5 HX5 HB5 B6
      go_wp2
      go_roundw
      case rel => exact ⟨k + 1, by omega, by omega, by go_num, ⟨_, _, _, _, _, HJ6.out, HX6.out⟩, HB6.out⟩
      case measure => simp [intOf]; omega
    · have HBK := hide2 hb
      clear hj hx hb
      have HN := hide2 (Land.nothing_walk wr)
      by_cases hl : k < len
      · have hi1 : (k : Int) < (len : Int) := by omega
        have hi2 : ¬ (k : Int) < 200 := by omega
        go_wp2_with fail
        refine HN.out.mono ?_
        rintro e w7 ⟨rfl, B7⟩
        go_wp2
        go_ret
        exact ⟨rfl, HBK.out.trans (B7.mono HBK.out.size)⟩
      · have hi1 : ¬ (k : Int) < (len : Int) := by omega
        go_wp2_with fail
        refine HN.out.mono ?_
        rintro e w7 ⟨rfl, B7⟩
        go_wp2
        go_ret
        exact ⟨rfl, HBK.out.trans (B7.mono HBK.out.size)⟩
end Go.Proofs.Ytolaagbdnchhiaa
