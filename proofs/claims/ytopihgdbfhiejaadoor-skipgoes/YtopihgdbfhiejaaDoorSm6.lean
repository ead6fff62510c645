/-
  The law's together. (Printed by gen_sm6.py.)
-/
import Derived.Test.YtopihgdbfhiejaaDoorSm4
import Derived.Deep.RegionHeld3
import Derived.Deep.DeepCutAuto
import Derived.BigQuiet
set_option linter.unusedVariables false
set_option linter.unusedSimpArgs false
namespace Go.Proofs.YtopihgdbfhiejaaDoor
open Go.RowKit Go.Maps Go.Sort

theorem mk4 (u : World) : (Instr.makeSlice 47 (.int .i64 4) (.int .i64 4)).run Tryd.prog u = .ok (.slice (some ⟨u.heap.size, 0, none⟩) 4 4) (u.alloc (.cells #[.int .i64 0, .int .i64 0, .int .i64 0, .int .i64 0] 3)) := by kernel_rfl
theorem infoUn : (Tryd.prog.info? 56).map (fun i => (i.zero, i.size, i.bytes)) = some (some (.agg #[.int .i64 0, .int .i64 0, .string .empty, .int .i64 0, .int .i64 0, .pointer none, .int .i64 0, .int .i64 0]), 8, 72) := by kernel_rfl

/-- What a cell holds, as a number. -/
def cnat (w : World) (b i : Nat) : Nat :=
  match w.cell? ⟨b, i, none⟩ with
  | some (.int _ x) => x.toNat
  | _ => 0
theorem cnat_of {w : World} {b i k : Nat} (h : w.cell? ⟨b, i, none⟩ = some (.int .i64 (k : Int))) : cnat w b i = k := by
  unfold cnat; rw [h]; rfl
theorem tmod_nat (t : Nat) : (t : Int).tmod 4 = ((t % 4 : Nat) : Int) := Int.ofNat_tmod t 4

section
variable {w w0 : World} {lb d : Nat} {K : Nat → Prop}
theorem map4 {α : Type} {l : List α} (h : l.length = 4) {q : Nat} (hq : q < 4) (f : α → Value) (z : α) : (l.map f)[q]? = some (f (l.getD q z)) := by
  rw [List.getElem?_map, List.getElem?_eq_getElem (by omega)]
  simp [List.getD, List.getElem?_eq_getElem (show q < l.length by omega)]
theorem Tm.at_cell {wr : World} {M : Nat} {s : Sl} {l : List Un} {v : Value} {ab nb : Nat} {at4 : List Nat} {now4 : List (Option Nat)} (h : Tm w wr lb d M K s l v ab nb at4 now4) {q : Nat} (hq : q < 4) : wr.cell? ⟨ab, q, none⟩ = some (.int .i64 ((at4.getD q 0 : Nat) : Int)) := by
  rw [h.atb.cell q, map4 h.la.1 hq nv 0]; rfl
theorem Tm.now_cell {wr : World} {M : Nat} {s : Sl} {l : List Un} {v : Value} {ab nb : Nat} {at4 : List Nat} {now4 : List (Option Nat)} (h : Tm w wr lb d M K s l v ab nb at4 now4) {q : Nat} (hq : q < 4) : wr.cell? ⟨nb, q, none⟩ = some (ov (now4.getD q none)) := by
  rw [h.nowb.cell q, map4 h.la.2 hq ov none]
theorem Tl.below {wr w' : World} {xs : List AskR} {P i : Nat} {s : Sl} {l : List Un} {v : Value} {ab nb : Nat} {at4 : List Nat} {now4 : List (Option Nat)} (h : Tl w wr lb d xs P i K s l v ab nb at4 now4) (hb : Below wr.heap.size wr w') : Tl w w' lb d xs P i K s l v ab nb at4 now4 := ⟨h.tm.below hb, h.ti, h.al, h.cnt, h.lt, h.ls, h.ox, h.mu⟩
theorem tm_start (h : LT w0 K lb d 600 0 s0) (hK : ∀ j, K j → w.heap.size ≤ j) (hb : Below w.heap.size w w0) (h0 : 0 < w.heap.size) :
    Tm w ((w0.alloc (.cells #[.int .i64 0, .int .i64 0, .int .i64 0, .int .i64 0] 3)).alloc (.cells #[.int .i64 (-1), .int .i64 (-1), .int .i64 (-1), .int .i64 (-1)] 3)) lb d 0 K s0 [] (.slice none 0 0) w0.heap.size (w0.heap.size + 1) (List.replicate 4 0) (List.replicate 4 none) := by
  obtain ⟨w1, hw1⟩ : ∃ x, x = w0.alloc (.cells #[.int .i64 0, .int .i64 0, .int .i64 0, .int .i64 0] 3) := ⟨_, rfl⟩
  have s1 : w1.heap.size = w0.heap.size + 1 := by rw [hw1]; simp
  have hb1 : Below w0.heap.size w0 w1 := by rw [hw1]; exact (Below.refl _ _).alloc (Nat.le_refl _) _
  have hb2 : Below w1.heap.size w1 (w1.alloc (.cells #[.int .i64 (-1), .int .i64 (-1), .int .i64 (-1), .int .i64 (-1)] 3)) := (Below.refl _ _).alloc (Nat.le_refl _) _
  have n1 : w1.heap[w0.heap.size]? = some (.cells #[.int .i64 0, .int .i64 0, .int .i64 0, .int .i64 0] 3 (0, 0)) := by rw [hw1]; exact heap_alloc_new w0 _
  have n2 := heap_alloc_new w1 (.cells #[.int .i64 (-1), .int .i64 (-1), .int .i64 (-1), .int .i64 (-1)] 3)
  have hkl := h.kl
  have hs := hb.size
  rw [← hw1]
  rw [s1] at n2
  refine ⟨(h.below hb1).below hb2, ⟨rfl, .inl ⟨rfl, rfl⟩⟩, fun u hu => (by cases hu), fun i j u x hi => (by simp at hi), hK, fun u hu => (by cases hu), fun j e => (by cases e), (hb2.block _ (by omega)).trans n1, n2, ⟨rfl, rfl⟩, ⟨fun e => by have := hkl _ e; omega, fun e => by have := hkl _ e; omega, by omega, by omega, by omega⟩, ?_, h0⟩
  exact (hb.trans ⟨hb1.os, hb1.tape, hb1.output, hb1.size, fun j hj => hb1.block j (by omega)⟩).trans ⟨hb2.os, hb2.tape, hb2.output, hb2.size, fun j hj => hb2.block j (by omega)⟩
theorem tl_start {wr : World} {v : Value} {ab nb P : Nat} {xs : List AskR} (hx : xs.length ≤ 40) (h : Tm w wr lb d 0 K s0 [] v ab nb (List.replicate 4 0) (List.replicate 4 none)) : Tl w wr lb d xs P 0 K s0 [] v ab nb (List.replicate 4 0) (List.replicate 4 none) := by
  have e1 : ∀ q, (List.replicate 4 (none : Option Nat)).getD q none = none := fun q => by
    simp only [List.getD, List.getElem?_replicate]; split <;> rfl
  have e2 : ∀ q, (List.replicate 4 (0 : Nat)).getD q 0 = 0 := fun q => by
    simp only [List.getD, List.getElem?_replicate]; split <;> rfl
  refine ⟨h, ?_, fun q _ => by rw [e2]; exact Nat.zero_le _, ?_, fun u hu => (by cases hu), (by decide), fun u hu => (by cases hu), MuOk.start (fun q hq => ?_)⟩
  · have : (fun q => (List.replicate 4 (none : Option Nat)).getD q none) = fun _ => none := by funext q; exact e1 q
    rw [this]; exact Ti.start
  · rw [e2, e2, e2, e2]; have := rem_all xs; simpa using this
  · unfold mu
    rw [e1, e2]
    have := rem_le xs 0 q
    have hkc := KC_le xs.length hx
    split
    · exact Nat.zero_le _
    · show rem xs 0 q * (9 * xs.length + 41) + (8 * (xs.length + 1) - 8) * (9 * xs.length + 40) + 0 ≤ _
      have := Nat.mul_le_mul_right (9 * xs.length + 41) this
      omega

/-- What together leaves. -/
def TgR (w w' : World) (lb d : Nat) (xs : List AskR) (P : Nat) (v : Value) : Prop := ∃ K' s l ab nb at4 now4 t, Tl w w' lb d xs P t K' s l v ab nb at4 now4 ∧ l.length = xs.length ∧ t ≤ 10000000 ∧ ∀ m, m < 4 → now4.getD m none = none
set_option maxRecDepth 100000 in
set_option maxHeartbeats 8000000 in
theorem together_any {ao po : Option Addr} {n cap P pcap : Nat} {xs : List AskR} {ps : List Int} (h : LT w0 K lb d 600 0 s0) (hK : ∀ j, K j → w.heap.size ≤ j) (hb : Below w.heap.size w w0) (h0 : 0 < w.heap.size)
    (hs : Seq 5 AskR.cells w ao n cap xs) (hok : ∀ x ∈ xs, x.ok) (hn : n ≤ 40) (hp : Seq 1 ih w po P pcap ps) (hpk : ∀ p ∈ ps, I64 p) (hP : P ≤ 10000) :
    Calls Tryd.prog 24 #[.pointer (some ⟨lb, 0, none⟩), .slice ao n cap, .slice po P pcap] w0 fun e w' => ∃ v, e = .returned (.tuple #[v, .bool true]) ∧ TgR w w' lb d xs P v := by
  have HTL := hide2 (tl_start (P := P) (xs := xs) (by rw [hs.1]; exact hn) (tm_start h hK hb h0))
  have hm4 := mk4
  have hcap := hs.2.1
  have hmax := hs.2.2.1
  have hpcap := hp.2.1
  have hpmax := hp.2.2.1
  unfold maxLen at hmax hpmax
  have HSQ := hide2 hs
  have HPQ := hide2 hp
  have HPK0 := hide2 hpk
  have HOK := hide2 hok
  have HXL : Hid (xs.length = n) := hide2 hs.1
  obtain ⟨X, hX⟩ : ∃ X : Nat, X = 4 * (n + 1) * (8 * n + 1) := ⟨_, rfl⟩
  have hXb : X ≤ 60000 := by
    rw [hX]
    have : 4 * (n + 1) * (8 * n + 1) ≤ 164 * 321 := Nat.mul_le_mul (by omega) (by omega)
    omega
  have hXi : (4 : Int) * ((n : Int) + 1) * (8 * (n : Int) + 1) = (X : Int) := by rw [hX]; simp
  obtain ⟨Tn, hTn⟩ : ∃ Tn : Nat, Tn = X * (n + 32) := ⟨_, rfl⟩
  have hTb : Tn ≤ 5000000 := by
    rw [hTn]
    have : X * (n + 32) ≤ 60000 * 72 := Nat.mul_le_mul hXb (by omega)
    omega
  have hTi : (X : Int) * ((n : Int) + 32) = (Tn : Int) := by rw [hTn]; simp
  have HTN : Hid (Tn = 4 * KC n) := hide2 (by rw [hTn, hX]; unfold KC; rw [Nat.mul_assoc, Nat.mul_assoc, Nat.mul_assoc])
  clear h hb hs hok hp hTn hX hpk hK
  go_enter Tryd.func24, Tryd.ntmps24
  obtain ⟨ab, hab⟩ : ∃ y, y = w0.heap.size := ⟨_, rfl⟩
  obtain ⟨nb, hnb⟩ : ∃ y, y = w0.heap.size + 1 := ⟨_, rfl⟩
  go_wp2
  rw [← hnb, ← hab]
  rw [← hnb, ← hab] at HTL
  clear hab hnb
  go_loopw [8, 12] (fun v i wr => ∃ (t : Nat) (K : Nat → Prop) (s : Sl) (l : List Un) (at4 : List Nat) (now4 : List (Option Nat)), t ≤ P + Tn ∧ i = .int .i64 t ∧ Hid (Tl w wr lb d xs P t K s l v ab nb at4 now4)) (fun _ i _ => P + Tn - (intOf i).toNat)
  case atStart => exact ⟨0, K, s0, [], _, _, by omega, rfl, HTL⟩
  case round =>
    obtain ⟨t, K, s, l, at4, now4, ht, rfl, L⟩ := hrel
    clear HTL
    by_cases htl : t < P + Tn
    · have d1 : (t : Int) < (P : Int) + (Tn : Int) := by omega
      have htm := tmod_nat t
      go_upto_if 43 with fail
      go_cut [13] (fun a wc => ∃ q : Nat, a = .int .i64 (q : Int) ∧ q < 4 ∧ (P ≤ t → q = t % 4) ∧ wc = wr)
      case first =>
        by_cases htP : t < P
        · have d2 : (t : Int) < (P : Int) := by omega
          obtain ⟨pb, poff, rfl, hpbl, hpcell⟩ := HPQ.out.2.2.2 (by omega)
          obtain ⟨pv, hpv⟩ := some_at HPQ.out.1 htP
          have p0 : wr.cell? ⟨pb, poff + t, none⟩ = some (.int .i64 pv) := (L.out.tm.bl.cell (p := ⟨pb, poff + t, none⟩) hpbl).trans (by have := hpcell t pv hpv 0 _ rfl; simpa using this)
          have HPK := hide2 (pick_any pv (HPK0.out pv (List.mem_of_getElem? hpv)) 4 (by decide) (by decide) wr)
          have hp4 := pk_lt pv (n := 4) (by decide)
          clear hpcell hpv
          go_wp2_with fail
          refine HPK.out.mono ?_
          rintro e wz ⟨rfl, rfl⟩
          clear HPK
          go_wp2
          go_meet
          exact ⟨_, rfl, hp4, fun e => by omega, rfl⟩
        · have d2 : ¬ (t : Int) < (P : Int) := by omega
          go_wp2
          go_meet
          exact ⟨t % 4, by simp, by omega, fun _ => rfl, rfl⟩
      case rest =>
        obtain ⟨q, rfl, hq4, hqp, hwc⟩ := hcut
        replace hwc := hwc.symm
        subst hwc
        have HQP := hide2 hqp
        clear hqp htm
        obtain ⟨u8, hu8⟩ : ∃ y, y = u8 := ⟨_, rfl⟩
        subst hu8
        have hvf : ∃ vo vc, u8 = .slice vo l.length vc := by
          rcases L.out.tm.row.2 with ⟨e, h0⟩ | ⟨g9, c9, cur9, e, -⟩
          · exact ⟨none, 0, by rw [e, h0]⟩
          · exact ⟨_, c9, e⟩
        obtain ⟨vo, vc, ev⟩ := hvf
        subst ev
        have cnow := L.out.tm.now_cell hq4
        have hq4i : (q : Int) < 4 := by omega
        cases hnow : now4.getD q none with
        | none =>
          rw [hnow] at cnow
          have cnow2 : wr.cell? ⟨nb, q, none⟩ = some (.int .i64 (-1)) := cnow
          have HNOW := hide2 hnow
          clear cnow hnow
          go_wp2
          obtain ⟨wQ, hwQ⟩ : ∃ y, y = wr := ⟨_, rfl⟩
          subst hwQ
          go_loopw [79] (fun _ wr => ∃ at5 : List Nat, Hid (Tl w wr lb d xs P t K s l (.slice vo l.length vc) ab nb at5 now4)) (fun _ wr => n - cnat wr ab q)
          case atStart => exact ⟨at4, L⟩
          case round =>
            obtain ⟨at5, L5⟩ := hrel
            clear L cnow2
            have cat := L5.out.tm.at_cell hq4
            have hkl := L5.out.al q hq4
            have fat := Go.Joins.unfrozen_of_block L5.out.tm.atb q
            have fnow := Go.Joins.unfrozen_of_block L5.out.tm.nowb q
            have cnow3 : wr.cell? ⟨nb, q, none⟩ = some (.int .i64 (-1)) := by
              have := L5.out.tm.now_cell hq4
              rw [HNOW.out] at this
              exact this
            have HCN := hide2 (cnat_of cat)
            obtain ⟨k, hk⟩ : ∃ k, k = at5.getD q 0 := ⟨_, rfl⟩
            rw [← hk] at cat hkl HCN
            rw [HXL.out] at hkl
            by_cases hkn : k < n
            · have hkni : (k : Int) < (n : Int) := by omega
              obtain ⟨xb, xoff, exo, hxbl, hxcell⟩ := HSQ.out.2.2.2 (by omega)
              obtain ⟨x, hx⟩ := some_at HSQ.out.1 hkn
              have hxok := HOK.out x (List.mem_of_getElem? hx)
              have hcb := fun p (hp : p.block < w.heap.size) => L5.out.tm.bl.cell (p := p) hp
              have y2 : wr.cell? ⟨xb, xoff + k * 5, none⟩ = some (.int .i64 x.w) := (hcb _ hxbl).trans (by have := hxcell k x hx 0 _ rfl; simpa using this)
              have y3 : wr.cell? ⟨xb, xoff + k * 5 + 1, none⟩ = some (.int .i64 x.kind) := (hcb _ hxbl).trans (hxcell k x hx 1 _ rfl)
              have y4 : wr.cell? ⟨xb, xoff + k * 5 + 2, none⟩ = some (.string x.key) := (hcb _ hxbl).trans (hxcell k x hx 2 _ rfl)
              have y5 : wr.cell? ⟨xb, xoff + k * 5 + 3, none⟩ = some (.int .i64 x.ref) := (hcb _ hxbl).trans (hxcell k x hx 3 _ rfl)
              have y6 : wr.cell? ⟨xb, xoff + k * 5 + 4, none⟩ = some (.int .i64 x.h) := (hcb _ hxbl).trans (hxcell k x hx 4 _ rfl)
              subst exo
              have HPK := hide2 (pick_any x.w hxok.1 4 (by decide) (by decide) wr)
              have HX : Hid (xs[at5.getD q 0]? = some x) := hide2 (by rw [← hk]; exact hx)
              have HK := hide2 hk
              clear hxcell hcb hx hk
              obtain ⟨wv, hwv⟩ : ∃ wv, wv = wkr x := ⟨_, rfl⟩
              rw [show pk x.w 4 = wv from hwv.symm] at HPK
              go_wp2_with fail
              refine HPK.out.mono ?_
              rintro e wz ⟨rfl, hwz⟩
              replace hwz := hwz.symm
              subst hwz
              clear HPK
              by_cases hw : wv = q
              · have HW : Hid (wkr x = q) := hide2 (hwv.symm.trans hw)
                have hkne : ¬ (k : Int) = (n : Int) := by omega
                have hkne2 : ((k : Int) == (n : Int)) = false := by simp; omega
                clear hwv
                replace hw := hw.symm
                subst hw
                have TA0 := L5.out.tm.setNow q (some l.length)
                obtain ⟨wA, hwA⟩ : ∃ y, y = wr.setCell ⟨nb, q, none⟩ (.int .i64 (l.length : Int)) := ⟨_, rfl⟩
                have TA : Tm w wA lb d t K s l (.slice vo l.length vc) ab nb at5 (now4.set q (some l.length)) := by rw [hwA]; exact TA0
                have y1 : wA.cell? ⟨ab, q, none⟩ = some (.int .i64 (k : Int)) := by rw [HK.out]; exact TA.at_cell hq4
                have hcbA := fun p (hp : p.block < w.heap.size) => (TA.bl.cell (p := p) hp).trans (L5.out.tm.bl.cell (p := p) hp).symm
                have y2A := (hcbA _ hxbl).trans y2
                have y3A := (hcbA _ hxbl).trans y3
                have y4A := (hcbA _ hxbl).trans y4
                have y5A := (hcbA _ hxbl).trans y5
                have y6A := (hcbA _ hxbl).trans y6
                have hTD := TA.below (w' := wA.drew) (⟨rfl, rfl, rfl, Nat.le_refl _, fun _ _ => rfl⟩)
                have HBG : Hid (Calls Tryd.prog 13 #[.pointer (some ⟨lb, 0, none⟩), .agg #[.int .i64 x.w, .int .i64 x.kind, .string x.key, .int .i64 x.ref, .int .i64 x.h]] wA.drew fun e w' => e = .returned (.pointer (some ⟨wA.heap.size + 1, 0, none⟩)) ∧ Om w' (wA.heap.size + 1) (lpp lb) nilv (opA x) ∧ Below wA.heap.size wA.drew w') := hide2 (hTD.ht.begun x hxok)
                have abl : ab < wA.heap.size := (Array.getElem?_eq_some_iff.1 TA.atb).1
                have hwA1 : w.heap.size ≤ wA.heap.size := TA.bl.size
                have xbl : xb < wA.heap.size := by have : xb < w.heap.size := hxbl; omega
                have hvA : (Value.slice vo l.length vc).ownBlock ≠ some ab ∧ (Value.slice vo l.length vc).ownBlock ≠ some nb := ⟨fun e => (TA.kv ab e).2.1 rfl, fun e => (TA.kv nb e).2.2 rfl⟩
                have hvl : ∀ j, (Value.slice vo l.length vc).ownBlock = some j → w.heap.size ≤ j ∧ j < wA.heap.size := fun j e => World.ownsRow.lt TA.row j e
                have hvx : (Value.slice vo l.length vc).ownBlock ≠ some xb := fun e => by have := (hvl xb e).1; have : xb < w.heap.size := hxbl; omega
                obtain ⟨i0, hi0, z0, z1, z2⟩ := info_parts infoUn
                have hll : l.length ≤ 40 := by have := L5.out.cnt; have := HXL.out; omega
                have HAP : Hid (∀ w2 : World, Below wA.heap.size wA.drew w2 → ∃ v4 w4, (∀ ty, (Builtin.append_ #[50, 50] ty #[.slice vo l.length vc, .slice (some ⟨w2.heap.size, 0, none⟩) 1 1]).run Tryd.prog (w2.alloc (.cells #[.int .i64 x.w, .int .i64 x.kind, .string x.key, .int .i64 x.ref, .int .i64 x.h, .pointer (some ⟨wA.heap.size + 1, 0, none⟩), .int .i64 (t : Int), .int .i64 (-1)] 56)) = .ok v4 w4) ∧ w4.ownsRow w.heap.size 56 8 v4 (l.length + 1) (l.flatMap Un.cells ++ [.int .i64 x.w, .int .i64 x.kind, .string x.key, .int .i64 x.ref, .int .i64 x.h, .pointer (some ⟨wA.heap.size + 1, 0, none⟩), .int .i64 (t : Int), .int .i64 (-1)]) ∧ (w2.alloc (.cells #[.int .i64 x.w, .int .i64 x.kind, .string x.key, .int .i64 x.ref, .int .i64 x.h, .pointer (some ⟨wA.heap.size + 1, 0, none⟩), .int .i64 (t : Int), .int .i64 (-1)] 56)).grownBy w4 (Value.slice vo l.length vc).ownBlock ∧ (v4.ownBlock = (Value.slice vo l.length vc).ownBlock ∨ v4.ownBlock = some (w2.heap.size + 1))) := hide2 (fun w2 hb2 => by
                  have hrow2 := hrow_fr TA.row (w' := w2) (G := fun _ => False) ⟨hb2.os, hb2.tape, hb2.output, hb2.size, fun j hj _ => hb2.block j hj⟩ (fun _ _ => id)
                  have hs2 := hb2.size
                  obtain ⟨g4, c4, w4, a1, a2, a3, a5⟩ := run_append_eq9 (P := Tryd.prog) w2 w.heap.size 50 56 i0 _ 8 72 Tryd.underlying50 hi0 z0 z1 z2 rfl (by decide) (.slice vo l.length vc) l.length _ hrow2 [.int .i64 x.w, .int .i64 x.kind, .string x.key, .int .i64 x.ref, .int .i64 x.h, .pointer (some ⟨wA.heap.size + 1, 0, none⟩), .int .i64 (t : Int), .int .i64 (-1)] rfl (by intro u hu; simp at hu; rcases hu with rfl | rfl | rfl | rfl | rfl | rfl | rfl | rfl <;> rfl) (by unfold maxLen; omega) (by omega) (by have h9 : wA.heap.size ≤ w2.heap.size := hs2; omega)
                  refine ⟨_, w4, a1, a2, a3, ?_⟩
                  rcases a5 with q9 | q9
                  · exact .inl q9
                  · exact .inr (by rw [q9]; rfl))
                have HTA := hide2 TA
                clear TA TA0 hcbA hTD
                go_wp2
                rw [← hwA]
                clear hwA y2 y3 y4 y5 y6 cat fat fnow cnow3
                have y2 := y2A
                have y3 := y3A
                have y4 := y4A
                have y5 := y5A
                have y6 := y6A
                clear y2A y3A y4A y5A y6A
                refine wp_region_noPanic ?_
                refine wp_region_held_drew (S := (fun u : World => u.cell? ⟨ab, q, none⟩ = some (.int .i64 (k : Int)) ∧ u.cell? ⟨xb, xoff + k * 5, none⟩ = some (.int .i64 x.w) ∧ u.cell? ⟨xb, xoff + k * 5 + 1, none⟩ = some (.int .i64 x.kind) ∧ u.cell? ⟨xb, xoff + k * 5 + 2, none⟩ = some (.string x.key) ∧ u.cell? ⟨xb, xoff + k * 5 + 3, none⟩ = some (.int .i64 x.ref) ∧ u.cell? ⟨xb, xoff + k * 5 + 4, none⟩ = some (.int .i64 x.h))) (by kernel_rfl) (⟨y1, y2, y3, y4, y5, y6⟩) (fun hHeld => ?_)
                refine wpAnyH_take (i := 0) (oi := { dst := some 128, op := _, type := _, pos := _, after := _, guard := _ }) (v := ?_) rfl (by kernel_rfl) (by kernel_rfl) (by kernel_rfl) (fun _ _ _ h => h) (Or.inl ⟨by rfl, ?_⟩) (by assumption) ?_
                rotate_left 1
                · intro u hSw; obtain ⟨s1, s2, s3, s4, s5, s6⟩ := hSw; go_simp; try with_reducible rfl
                try simp only [Act.put, List.setIfInBounds_toArray, List.set_cons_zero, List.set_cons_succ]
                refine wpAnyH_take (i := 1) (oi := { dst := some 129, op := _, type := _, pos := _, after := _, guard := _ }) (v := ?_) rfl (by kernel_rfl) (by kernel_rfl) (by kernel_rfl) (fun _ _ _ h => h) (Or.inl ⟨by rfl, ?_⟩) (by assumption) ?_
                rotate_left 1
                · intro u hSw; obtain ⟨s1, s2, s3, s4, s5, s6⟩ := hSw; go_simp; try with_reducible rfl
                try simp only [Act.put, List.setIfInBounds_toArray, List.set_cons_zero, List.set_cons_succ]
                refine wpAnyH_take (i := 2) (oi := { dst := some 130, op := _, type := _, pos := _, after := _, guard := _ }) (v := ?_) rfl (by kernel_rfl) (by kernel_rfl) (by kernel_rfl) (fun _ _ _ h => h) (Or.inl ⟨by rfl, ?_⟩) (by assumption) ?_
                rotate_left 1
                · intro u hSw; obtain ⟨s1, s2, s3, s4, s5, s6⟩ := hSw; go_simp; try with_reducible rfl
                try simp only [Act.put, List.setIfInBounds_toArray, List.set_cons_zero, List.set_cons_succ]
                refine wpAnyH_take (i := 3) (oi := { dst := some 131, op := _, type := _, pos := _, after := _, guard := _ }) (v := ?_) rfl (by kernel_rfl) (by kernel_rfl) (by kernel_rfl) (fun _ _ _ h => h) (Or.inl ⟨by rfl, ?_⟩) (by assumption) ?_
                rotate_left 1
                · intro u hSw; obtain ⟨s1, s2, s3, s4, s5, s6⟩ := hSw; go_simp; try with_reducible rfl
                try simp only [Act.put, List.setIfInBounds_toArray, List.set_cons_zero, List.set_cons_succ]
                refine wpAnyH_take (i := 4) (oi := { dst := some 132, op := _, type := _, pos := _, after := _, guard := _ }) (v := ?_) rfl (by kernel_rfl) (by kernel_rfl) (by kernel_rfl) (fun _ _ _ h => h) (Or.inl ⟨by rfl, ?_⟩) (by assumption) ?_
                rotate_left 1
                · intro u hSw; obtain ⟨s1, s2, s3, s4, s5, s6⟩ := hSw; go_simp; try with_reducible rfl
                try simp only [Act.put, List.setIfInBounds_toArray, List.set_cons_zero, List.set_cons_succ]
                refine wpAnyH_take (i := 5) (oi := { dst := some 133, op := _, type := _, pos := _, after := _, guard := _ }) (v := ?_) rfl (by kernel_rfl) (by kernel_rfl) (by kernel_rfl) (fun _ _ _ h => h) (Or.inl ⟨by rfl, ?_⟩) (by assumption) ?_
                rotate_left 1
                · intro u hSw; obtain ⟨s1, s2, s3, s4, s5, s6⟩ := hSw; go_simp; try with_reducible rfl
                try simp only [Act.put, List.setIfInBounds_toArray, List.set_cons_zero, List.set_cons_succ]
                refine wpAnyH_take (i := 6) (oi := { dst := some 134, op := _, type := _, pos := _, after := _, guard := _ }) (v := ?_) rfl (by kernel_rfl) (by kernel_rfl) (by kernel_rfl) (fun _ _ _ h => h) (Or.inl ⟨by rfl, ?_⟩) (by assumption) ?_
                rotate_left 1
                · intro u hSw; obtain ⟨s1, s2, s3, s4, s5, s6⟩ := hSw; go_simp; try with_reducible rfl
                try simp only [Act.put, List.setIfInBounds_toArray, List.set_cons_zero, List.set_cons_succ]
                refine wpAnyH_take (i := 7) (oi := { dst := some 135, op := _, type := _, pos := _, after := _, guard := _ }) (v := ?_) rfl (by kernel_rfl) (by kernel_rfl) (by kernel_rfl) (fun _ _ _ h => h) (Or.inl ⟨by rfl, ?_⟩) (by assumption) ?_
                rotate_left 1
                · intro u hSw; obtain ⟨s1, s2, s3, s4, s5, s6⟩ := hSw; go_simp; try with_reducible rfl
                try simp only [Act.put, List.setIfInBounds_toArray, List.set_cons_zero, List.set_cons_succ]
                refine wpAnyH_take (i := 8) (oi := { dst := some 136, op := _, type := _, pos := _, after := _, guard := _ }) (v := ?_) rfl (by kernel_rfl) (by kernel_rfl) (by kernel_rfl) (fun _ _ _ h => h) (Or.inl ⟨by rfl, ?_⟩) (by assumption) ?_
                rotate_left 1
                · intro u hSw; obtain ⟨s1, s2, s3, s4, s5, s6⟩ := hSw; go_simp; try with_reducible rfl
                try simp only [Act.put, List.setIfInBounds_toArray, List.set_cons_zero, List.set_cons_succ]
                refine wpAnyH_take (i := 9) (oi := { dst := some 137, op := _, type := _, pos := _, after := _, guard := _ }) (v := ?_) rfl (by kernel_rfl) (by kernel_rfl) (by kernel_rfl) (fun _ _ _ h => h) (Or.inl ⟨by rfl, ?_⟩) (by assumption) ?_
                rotate_left 1
                · intro u hSw; obtain ⟨s1, s2, s3, s4, s5, s6⟩ := hSw; go_simp; try with_reducible rfl
                try simp only [Act.put, List.setIfInBounds_toArray, List.set_cons_zero, List.set_cons_succ]
                refine wpAnyH_take (i := 10) (oi := { dst := some 138, op := _, type := _, pos := _, after := _, guard := _ }) (v := ?_) rfl (by kernel_rfl) (by kernel_rfl) (by kernel_rfl) (fun _ _ _ h => h) (Or.inl ⟨by rfl, ?_⟩) (by assumption) ?_
                rotate_left 1
                · intro u hSw; obtain ⟨s1, s2, s3, s4, s5, s6⟩ := hSw; go_simp; try with_reducible rfl
                try simp only [Act.put, List.setIfInBounds_toArray, List.set_cons_zero, List.set_cons_succ]
                refine wpAnyH_take (i := 11) (oi := { dst := some 139, op := _, type := _, pos := _, after := _, guard := _ }) (v := ?_) rfl (by kernel_rfl) (by kernel_rfl) (by kernel_rfl) (fun _ _ _ h => h) (Or.inl ⟨by rfl, ?_⟩) (by assumption) ?_
                rotate_left 1
                · intro u hSw; obtain ⟨s1, s2, s3, s4, s5, s6⟩ := hSw; go_simp; try with_reducible rfl
                try simp only [Act.put, List.setIfInBounds_toArray, List.set_cons_zero, List.set_cons_succ]
                refine wpAnyH_take (i := 12) (oi := { dst := some 140, op := _, type := _, pos := _, after := _, guard := _ }) (v := ?_) rfl (by kernel_rfl) (by kernel_rfl) (by kernel_rfl) (fun _ _ _ h => h) (Or.inl ⟨by rfl, ?_⟩) (by assumption) ?_
                rotate_left 1
                · intro u hSw; obtain ⟨s1, s2, s3, s4, s5, s6⟩ := hSw; go_simp; try with_reducible rfl
                try simp only [Act.put, List.setIfInBounds_toArray, List.set_cons_zero, List.set_cons_succ]
                refine wpAnyH_take (i := 13) (oi := { dst := some 141, op := _, type := _, pos := _, after := _, guard := _ }) (v := ?_) rfl (by kernel_rfl) (by kernel_rfl) (by kernel_rfl) (fun _ _ _ h => h) (Or.inl ⟨by rfl, ?_⟩) (by assumption) ?_
                rotate_left 1
                · intro u hSw; obtain ⟨s1, s2, s3, s4, s5, s6⟩ := hSw; go_simp; try with_reducible rfl
                try simp only [Act.put, List.setIfInBounds_toArray, List.set_cons_zero, List.set_cons_succ]
                refine wpAnyH_take (i := 14) (oi := { dst := some 142, op := _, type := _, pos := _, after := _, guard := _ }) (v := ?_) rfl (by kernel_rfl) (by kernel_rfl) (by kernel_rfl) (fun _ _ _ h => h) (Or.inl ⟨by rfl, ?_⟩) (by assumption) ?_
                rotate_left 1
                · intro u hSw; obtain ⟨s1, s2, s3, s4, s5, s6⟩ := hSw; go_simp; try with_reducible rfl
                try simp only [Act.put, List.setIfInBounds_toArray, List.set_cons_zero, List.set_cons_succ]
                refine wpAnyH_take (i := 15) (oi := { dst := some 143, op := _, type := _, pos := _, after := _, guard := _ }) (v := ?_) rfl (by kernel_rfl) (by kernel_rfl) (by kernel_rfl) (fun _ _ _ h => h) (Or.inl ⟨by rfl, ?_⟩) (by assumption) ?_
                rotate_left 1
                · intro u hSw; obtain ⟨s1, s2, s3, s4, s5, s6⟩ := hSw; go_simp; try with_reducible rfl
                try simp only [Act.put, List.setIfInBounds_toArray, List.set_cons_zero, List.set_cons_succ]
                refine wpAnyH_take (i := 17) (oi := { dst := some 145, op := _, type := _, pos := _, after := _, guard := _ }) (v := ?_) rfl (by kernel_rfl) (by kernel_rfl) (by kernel_rfl) (fun _ _ _ h => h) (Or.inl ⟨by rfl, ?_⟩) (by assumption) ?_
                rotate_left 1
                · intro u hSw; obtain ⟨s1, s2, s3, s4, s5, s6⟩ := hSw; go_simp; try with_reducible rfl
                try simp only [Act.put, List.setIfInBounds_toArray, List.set_cons_zero, List.set_cons_succ]
                refine wpAnyH_ready (rs := [16]) (by kernel_rfl) (by simp) ?_
                refine AllReadyH.cons (o := { dst := some 144, op := _, type := _, pos := _, after := _, guard := _ }) rfl (fun K hK => ?_) AllReadyH.nil
                go_simp
                refine HBG.out.mono ?_
                rintro e w2 ⟨rfl, ho2, hb2⟩
                have z1 := (hb2.cell (p := ⟨ab, q, none⟩) abl).trans y1
                have z2 := (hb2.cell (p := ⟨xb, xoff + k * 5, none⟩) xbl).trans y2
                have z3 := (hb2.cell (p := ⟨xb, xoff + k * 5 + 1, none⟩) xbl).trans y3
                have z4 := (hb2.cell (p := ⟨xb, xoff + k * 5 + 2, none⟩) xbl).trans y4
                have z5 := (hb2.cell (p := ⟨xb, xoff + k * 5 + 3, none⟩) xbl).trans y5
                have z6 := (hb2.cell (p := ⟨xb, xoff + k * 5 + 4, none⟩) xbl).trans y6
                have HO2 := hide2 ho2
                have HB2 := hide2 hb2
                have hsz2 : wA.heap.size ≤ w2.heap.size := hb2.size
                clear ho2 hb2
                go_wp2_with fail
                refine hK.out _ _ (⟨z1, z2, z3, z4, z5, z6⟩) (fun hHeld => ?_)
                clear hK K
                try simp only [Act.put, List.setIfInBounds_toArray, List.set_cons_zero, List.set_cons_succ]
                refine wpAnyH_take (i := 18) (oi := { dst := some 146, op := _, type := _, pos := _, after := _, guard := _ }) (v := ?_) rfl (by kernel_rfl) (by kernel_rfl) (by kernel_rfl) (fun _ _ _ h => h) (Or.inl ⟨by rfl, ?_⟩) (by assumption) ?_
                rotate_left 1
                · intro u hSw; obtain ⟨s1, s2, s3, s4, s5, s6⟩ := hSw; go_simp; try with_reducible rfl
                try simp only [Act.put, List.setIfInBounds_toArray, List.set_cons_zero, List.set_cons_succ]
                refine wpAnyH_ready (rs := [19]) (by kernel_rfl) (by simp) ?_
                refine AllReadyH.cons (o := { dst := some 147, op := _, type := _, pos := _, after := _, guard := _ }) rfl (fun K hK => ?_) AllReadyH.nil
                go_simp
                have hbA : Below w2.heap.size w2 (w2.alloc (.cells #[.int .i64 x.w, .int .i64 x.kind, .string x.key, .int .i64 x.ref, .int .i64 x.h, .pointer (some ⟨wA.heap.size + 1, 0, none⟩), .int .i64 (t : Int), .int .i64 (-1)] 56)) := (Below.refl _ _).alloc (Nat.le_refl _) _
                have a1 := (hbA.cell (p := ⟨ab, q, none⟩) (by show ab < w2.heap.size; omega)).trans z1
                have a2 := (hbA.cell (p := ⟨xb, xoff + k * 5, none⟩) (by show xb < w2.heap.size; omega)).trans z2
                have a3 := (hbA.cell (p := ⟨xb, xoff + k * 5 + 1, none⟩) (by show xb < w2.heap.size; omega)).trans z3
                have a4 := (hbA.cell (p := ⟨xb, xoff + k * 5 + 2, none⟩) (by show xb < w2.heap.size; omega)).trans z4
                have a5 := (hbA.cell (p := ⟨xb, xoff + k * 5 + 3, none⟩) (by show xb < w2.heap.size; omega)).trans z5
                have a6 := (hbA.cell (p := ⟨xb, xoff + k * 5 + 4, none⟩) (by show xb < w2.heap.size; omega)).trans z6
                refine hK.out _ _ (⟨a1, a2, a3, a4, a5, a6⟩) (fun hHeld => ?_)
                clear hK K
                try simp only [Act.put, List.setIfInBounds_toArray, List.set_cons_zero, List.set_cons_succ]
                obtain ⟨v4, w4, hap, hown4, hgrow4, hb4⟩ := HAP.out w2 HB2.out
                refine wpAnyH_ready (rs := [20]) (by kernel_rfl) (by simp) ?_
                refine AllReadyH.cons (o := { dst := some 148, op := _, type := _, pos := _, after := _, guard := _ }) rfl (fun K hK => ?_) AllReadyH.nil
                refine step_append_eq9 rfl _ _ _ rfl _ _ v4 w4 rfl rfl hap ?_
                have c1 : w4.cell? ⟨ab, q, none⟩ = some (.int .i64 (k : Int)) := (World.cell?_of_block (hgrow4.block ab (by simp; omega) (fun e => hvA.1 e.symm))).trans a1
                have c2 : w4.cell? ⟨xb, xoff + k * 5, none⟩ = some (.int .i64 x.w) := (World.cell?_of_block (hgrow4.block xb (by simp; omega) (fun e => hvx e.symm))).trans a2
                have c3 : w4.cell? ⟨xb, xoff + k * 5 + 1, none⟩ = some (.int .i64 x.kind) := (World.cell?_of_block (hgrow4.block xb (by simp; omega) (fun e => hvx e.symm))).trans a3
                have c4 : w4.cell? ⟨xb, xoff + k * 5 + 2, none⟩ = some (.string x.key) := (World.cell?_of_block (hgrow4.block xb (by simp; omega) (fun e => hvx e.symm))).trans a4
                have c5 : w4.cell? ⟨xb, xoff + k * 5 + 3, none⟩ = some (.int .i64 x.ref) := (World.cell?_of_block (hgrow4.block xb (by simp; omega) (fun e => hvx e.symm))).trans a5
                have c6 : w4.cell? ⟨xb, xoff + k * 5 + 4, none⟩ = some (.int .i64 x.h) := (World.cell?_of_block (hgrow4.block xb (by simp; omega) (fun e => hvx e.symm))).trans a6
                refine hK.out _ _ (⟨c1, c2, c3, c4, c5, c6⟩) (fun hHeld => ?_)
                clear hK K
                try simp only [Act.put, List.setIfInBounds_toArray, List.set_cons_zero, List.set_cons_succ]
                refine wpAnyH_take (i := 21) (oi := { dst := some 8, op := _, type := _, pos := _, after := _, guard := _ }) (v := ?_) rfl (by kernel_rfl) (by kernel_rfl) (by kernel_rfl) (fun _ _ _ h => h) (Or.inl ⟨by rfl, ?_⟩) (by assumption) ?_
                rotate_left 1
                · intro u hSw; obtain ⟨s1, s2, s3, s4, s5, s6⟩ := hSw; go_simp; try with_reducible rfl
                try simp only [Act.put, List.setIfInBounds_toArray, List.set_cons_zero, List.set_cons_succ]
                refine wpAnyH_done (by kernel_rfl) ?_ _
                refine NoPanic.normal ?_
                have hFB : Below wA.heap.size wA w2 := ⟨HB2.out.os, HB2.out.tape, HB2.out.output, HB2.out.size, HB2.out.block⟩
                have T4 := HTA.out.pushed (u := ⟨x, opA x, wA.heap.size + 1, (fun j => j = wA.heap.size + 1), nilv, t, none⟩) hFB (Om.begun (lp := nilv) HO2.out (opA_tw x).2 (by omega)) (fun j e => by have : j = wA.heap.size + 1 := e; omega) (((Fr.refl (fun j => (Value.slice vo l.length vc).ownBlock = some j) w2).alloc _).trans (Fr.grown hgrow4 (fun j e => e)) (fun j e => .inl e)) hown4 (fun j e => by
                  rcases hb4 with q9 | q9
                  · exact .inl (by rw [← q9]; exact e)
                  · right
                    rw [q9] at e
                    have : w2.heap.size + 1 = j := Option.some.inj e
                    omega)
                have c1 := T4.at_cell hq4
                rw [← HK.out] at c1
                have f1 := Go.Joins.unfrozen_of_block T4.atb q
                have TB := T4.setAt q (k + 1)
                have ek : at5.set q (k + 1) = at5.set q (at5.getD q 0 + 1) := by rw [HK.out]
                rw [ek] at TB
                have HLB := hide2 (L5.out.begun hq4 HQP.out HNOW.out HX.out HW.out TB)
                have abl4 := (Array.getElem?_eq_some_iff.1 T4.atb).1
                obtain ⟨gt, capt, ev4⟩ := hrow_succ hown4
                clear hown4 hgrow4 hb4 hap T4 TB hFB HO2 HB2 HAP HTA HBG
                subst ev4
                go_wp2
                go_roundw
                case rel => exact ⟨t + 1, K, s, _, _, _, by omega, by go_num, HLB⟩
                case measure => simp [intOf]; omega

              · have hpast := L5.out.past hq4 HX.out (by rw [← hwv]; exact hw)
                rw [← HK.out] at hpast
                have HPA := hide2 hpast
                have hwne : ¬ ((wv : Nat) : Int) = (q : Int) := by omega
                have hwne2 : (((wv : Nat) : Int) != (q : Int)) = true := by simp; omega
                have HCN2 : Hid (cnat (wr.setCell ⟨ab, q, none⟩ (.int .i64 ((k + 1 : Nat) : Int))) ab q = k + 1) := hide2 (by
                  have hla := L5.out.tm.la.1
                  have := hpast.tm.at_cell hq4
                  rw [getD4 hla hq4, if_pos rfl] at this
                  exact cnat_of this)
                clear hpast hwv hw
                go_wp2
                go_roundw
                case rel => exact ⟨_, HPA⟩
                case measure =>
                  have h9 := HCN2.out
                  rw [show ((k + 1 : Nat) : Int) = (k : Int) + 1 by omega] at h9
                  rw [HCN.out, h9]
                  omega
            · obtain rfl : k = n := by omega
              have hr0 : rem xs (at5.getD q 0) q = 0 := by rw [← hk, ← HXL.out]; exact rem_end xs q
              have HID := hide2 (L5.out.idle hq4 HQP.out HNOW.out hr0)
              clear hr0 hk HCN
              go_upto_region 15 with fail
              go_cut [121] (fun b wc => ∃ c : Bool, b = .bool c ∧ (c = true → P ≤ t ∧ l.length = k ∧ ∀ m, m < 4 → now4.getD m none = none) ∧ wc = wr)
              case first =>
                clear cat fat fnow cnow3
                by_cases a0 : P ≤ t
                · have e0 : (P : Int) ≤ (t : Int) := by omega
                  have A0 := hide2 a0
                  by_cases a1 : l.length = k
                  · have e1 : (l.length : Int) = (k : Int) := by omega
                    have A1 := hide2 a1
                    have D1 : decide ((l.length : Int) = (k : Int)) = true := decide_eq_true e1
                    have D2 : decide (l.length = k) = true := decide_eq_true a1
                    have D0 : decide ((P : Int) ≤ (t : Int)) = true := decide_eq_true e0
                    have D3 : decide (P ≤ t) = true := decide_eq_true a0
                    clear a1
                    have b0 : wr.cell? ⟨nb, 0, none⟩ = some (ov (now4.getD 0 none)) := L5.out.tm.now_cell (by decide)
                    cases n0 : now4.getD 0 none with
                    | some j0 =>
                      have g0 : wr.cell? ⟨nb, 0, none⟩ = some (.int .i64 ((j0 : Nat) : Int)) := by rw [b0, n0]; rfl
                      have k0 : ¬ ((j0 : Nat) : Int) < 0 := by omega
                      clear b0 n0
                      go_wp2
                      go_meet
                      exact ⟨false, rfl, fun q9 => (by cases q9), rfl⟩
                    | none =>
                      have g0 : wr.cell? ⟨nb, 0, none⟩ = some (.int .i64 (-1)) := by rw [b0, n0]; rfl
                      have N0 := hide2 n0
                      clear b0 n0
                      have b1 : wr.cell? ⟨nb, 1, none⟩ = some (ov (now4.getD 1 none)) := L5.out.tm.now_cell (by decide)
                      cases n1 : now4.getD 1 none with
                      | some j1 =>
                        have g1 : wr.cell? ⟨nb, 1, none⟩ = some (.int .i64 ((j1 : Nat) : Int)) := by rw [b1, n1]; rfl
                        have k1 : ¬ ((j1 : Nat) : Int) < 0 := by omega
                        clear b1 n1
                        go_wp2
                        go_meet
                        exact ⟨false, rfl, fun q9 => (by cases q9), rfl⟩
                      | none =>
                        have g1 : wr.cell? ⟨nb, 1, none⟩ = some (.int .i64 (-1)) := by rw [b1, n1]; rfl
                        have N1 := hide2 n1
                        clear b1 n1
                        have b2 : wr.cell? ⟨nb, 2, none⟩ = some (ov (now4.getD 2 none)) := L5.out.tm.now_cell (by decide)
                        cases n2 : now4.getD 2 none with
                        | some j2 =>
                          have g2 : wr.cell? ⟨nb, 2, none⟩ = some (.int .i64 ((j2 : Nat) : Int)) := by rw [b2, n2]; rfl
                          have k2 : ¬ ((j2 : Nat) : Int) < 0 := by omega
                          clear b2 n2
                          go_wp2
                          go_meet
                          exact ⟨false, rfl, fun q9 => (by cases q9), rfl⟩
                        | none =>
                          have g2 : wr.cell? ⟨nb, 2, none⟩ = some (.int .i64 (-1)) := by rw [b2, n2]; rfl
                          have N2 := hide2 n2
                          clear b2 n2
                          have b3 : wr.cell? ⟨nb, 3, none⟩ = some (ov (now4.getD 3 none)) := L5.out.tm.now_cell (by decide)
                          cases n3 : now4.getD 3 none with
                          | some j3 =>
                            have g3 : wr.cell? ⟨nb, 3, none⟩ = some (.int .i64 ((j3 : Nat) : Int)) := by rw [b3, n3]; rfl
                            have k3 : ¬ ((j3 : Nat) : Int) < 0 := by omega
                            clear b3 n3
                            go_wp2
                            go_meet
                            exact ⟨false, rfl, fun q9 => (by cases q9), rfl⟩
                          | none =>
                            have g3 : wr.cell? ⟨nb, 3, none⟩ = some (.int .i64 (-1)) := by rw [b3, n3]; rfl
                            have N3 := hide2 n3
                            clear b3 n3
                            go_wp2
                            go_meet
                            exact ⟨true, rfl, fun _ => ⟨A0.out, A1.out, fun m hm => by
                              rcases (show m = 0 ∨ m = 1 ∨ m = 2 ∨ m = 3 by omega) with e | e | e | e <;> subst e
                              · exact N0.out
                              · exact N1.out
                              · exact N2.out
                              · exact N3.out⟩, rfl⟩
                  · have e1 : ¬ (l.length : Int) = (k : Int) := by omega
                    have D1 : decide ((l.length : Int) = (k : Int)) = false := decide_eq_false e1
                    have D2 : decide (l.length = k) = false := decide_eq_false a1
                    have D0 : decide ((P : Int) ≤ (t : Int)) = true := decide_eq_true e0
                    have D3 : decide (P ≤ t) = true := decide_eq_true a0
                    go_wp2
                    go_meet
                    exact ⟨false, rfl, fun q9 => (by cases q9), rfl⟩
                · have e0 : ¬ (P : Int) ≤ (t : Int) := by omega
                  have D0 : decide ((P : Int) ≤ (t : Int)) = false := decide_eq_false e0
                  have D3 : decide (P ≤ t) = false := decide_eq_false a0
                  go_wp2
                  go_meet
                  exact ⟨false, rfl, fun q9 => (by cases q9), rfl⟩
              case rest =>
                obtain ⟨c, rfl, hc, hwc⟩ := hcut
                replace hwc := hwc.symm
                subst hwc
                cases c with
                | true =>
                  have HC := hide2 (hc rfl)
                  clear hc
                  go_wp2
                  go_ret2
                  exact ⟨_, rfl, K, s, l, ab, nb, at5, now4, t, L5.out, by rw [HXL.out]; exact HC.out.2.1, by omega, HC.out.2.2⟩
                | false =>
                  clear hc
                  go_wp2
                  go_roundw
                  case rel => exact ⟨t + 1, K, s, l, at5, now4, by omega, by go_num, HID⟩
                  case measure => simp [intOf]; omega
        | some j =>
          rw [hnow] at cnow
          have cnow2 : wr.cell? ⟨nb, q, none⟩ = some (.int .i64 (j : Int)) := cnow
          obtain ⟨u, hu, hf, hwk⟩ := L.out.ti.nw q j hnow
          have hum := List.mem_of_getElem? hu
          have hjl : j < l.length := (List.getElem?_eq_some_iff.1 hu).1
          obtain ⟨g, cap9, ev9⟩ : ∃ g cap9, Value.slice vo l.length vc = .slice (some ⟨g, 0, none⟩) l.length cap9 := by
            rcases L.out.tm.row.2 with ⟨e, e0⟩ | ⟨g9, c9, cur9, e, -⟩
            · omega
            · exact ⟨g9, c9, e⟩
          simp only [Value.slice.injEq, true_and] at ev9
          obtain ⟨rfl, rfl⟩ := ev9
          have hrowc : ∀ i, i < 8 → wr.cell? ⟨g, j * 8 + i, none⟩ = u.cells[i]? := fun i hi => by
            rw [World.ownsRow.cellAt L.out.tm.row (j * 8 + i) (by omega), flat8 l j i u hu hi]
          have cp : wr.cell? ⟨g, j * 8 + 5, none⟩ = some (.pointer (some ⟨u.b, 0, none⟩)) := hrowc 5 (by decide)
          have hji : (j : Int) < (l.length : Int) := by omega
          have hj0 : ¬ (j : Int) < 0 := by omega
          have hui := L.out.ti.one u hum
          obtain ⟨fc1, fc2, fc3⟩ := L.out.facts
          have hou := L.out.tm.ops u hum
          have hko := L.out.tm.ko u hum
          have hul : u.b < wr.heap.size := hou.om.lt
          -- the step, whatever the key is
          have hstep : Calls Tryd.prog 20 #[.pointer (some ⟨u.b, 0, none⟩)] wr fun e w' => ∃ s' o' K' B' cv', e = .returned (.bool (decide (o'.st = 5))) ∧ ((bad u.x = false ∧ Sq 600 s u.o s' o') ∨ (bad u.x = true ∧ s' = s ∧ o' = { u.o with code := 100, st := 5 })) ∧ Tm w w' lb d (t + 1) K' s' (l.set j { u with o := o', B := B', cv := cv' }) (.slice (some ⟨g, 0, none⟩) l.length vc) ab nb at4 now4 := by
            cases hg : bad u.x with
            | false =>
              have hr := hui.run hf hg
              have hKB : ∀ k, K k → ¬ u.B k := fun k hk hb => (hko k hb).1 hk
              by_cases h4 : u.o.st = 4
              · obtain ⟨q1, q2, q3⟩ := hr.four h4
                obtain ⟨c1, c2, c3⟩ := hr.cs q1
                obtain ⟨c, rest, ec⟩ : ∃ c rest, u.o.cs = c :: rest := by
                  cases hcs : u.o.cs with
                  | nil => exact absurd hcs q2
                  | cons c rest => exact ⟨c, rest, rfl⟩
                have hl8 : u.o.cs.length ≤ 8 := by
                  by_cases k2 : okd u.x = 2
                  · have := (hr.h k2).1; have := hgt_bd u.x.h; omega
                  · rw [(hr.h0 k2).2.1]; simp
                refine (L.out.tm.ht.give hou hKB h4 ec c1 c2 (by omega)).mono ?_
                rintro e w' ⟨cv', rfl, h2, h3, hN⟩
                refine ⟨_, _, K, u.B, cv', ?_, .inl ⟨rfl, .give c rest h4 ec⟩, L.out.tm.went hu (h2.up (Nat.le_succ _)) h3 hN⟩
                show _ = Ending.returned (.bool (decide ((if rest.length = 0 then 5 else 4) = 5)))
                by_cases e0 : rest.length = 0
                · rw [if_pos e0]; simp [e0]
                · rw [if_neg e0]; simp [e0]
              · have hst : u.o.st = 1 ∨ u.o.st = 2 ∨ u.o.st = 3 := by rcases hr.st with q9 | q9 | q9 | q9 <;> omega
                refine (L.out.tm.ht.step hou hKB (hr.oi h4) hst (fun _ _ => by have := HXL.out; omega) (by omega)).mono ?_
                rintro e w' ⟨s', o', K', B', cv', rfl, h1, h2, h3, hN⟩
                exact ⟨s', o', K', B', cv', rfl, .inl ⟨rfl, .stp _ _ h4 h1⟩, L.out.tm.went hu h2 h3 hN⟩
            | true =>
              have hnr := hui.nrun hf hg
              have h0 : u.o.st = 0 := by rw [hnr]; exact (opA_bad u.x hg).1
              have hub := hou.kk u.b (.inl rfl)
              refine (L.out.tm.ht.refuse hou.om (hko u.b hub).1 (fun e => by have := (hko u.b hub).2.1; have := L.out.tm.b0; omega) h0).mono ?_
              rintro e w' ⟨rfl, h1, h2, hF⟩
              have hO : Ob w' u.B u.b lb u.cv { u.o with code := 100, st := 5 } := by
                refine ⟨h2, hrow_fr hou.row hF (fun k e q => ?_), hou.b0, hou.kk, fun k hk => Nat.lt_of_lt_of_le (hou.kl k hk) hF.size⟩
                have hkd := Hr.kind hou.row e
                obtain ⟨c9, fz9, hb9⟩ := hkd
                have hom := hou.om
                unfold Om at hom
                rw [q] at hb9
                rw [hom] at hb9
                simp at hb9
              exact ⟨s, _, K, u.B, u.cv, rfl, .inr ⟨rfl, rfl, rfl⟩, L.out.tm.went hu (h1.up (Nat.le_succ _)) hO (Nx.same (fun k hk hb => (hko k hb).1 hk) (hF.mono (fun k _ e => .inr (by rw [e]; exact hub))))⟩
          have HST := hide2 hstep
          have HNOW := hide2 hnow
          have HL := hide2 L.out
          have HU := hide2 hu
          have HF := hide2 hf
          clear hstep cnow hnow hrowc hui hou hko L hum hu hf fc1 fc2 fc3 hwk
          go_wp2_with fail
          refine HST.out.mono ?_
          rintro e w1 ⟨s', o', K', B', cv', rfl, hst, hT⟩
          clear HST
          by_cases h3 : o'.st = 5
          · have hd : decide (o'.st = 5) = true := decide_eq_true h3
            have cn1 : w1.cell? ⟨nb, q, none⟩ = some (.int .i64 (j : Int)) := by
              have := hT.now_cell hq4
              rw [HNOW.out] at this
              exact this
            have fr6 : w1.frozen? ⟨g, j * 8 + 7, none⟩ = false := World.ownsRow.frozenAt (by have := hT.row; rw [List.length_set] at this; exact this) (j * 8 + 7)
            have cr6 : w1.cell? ⟨g, j * 8 + 7, none⟩ = some (.int .i64 (-1)) := by
              have hrw := hT.row
              rw [List.length_set] at hrw
              rw [World.ownsRow.cellAt hrw (j * 8 + 7) (by omega), flat8 _ j 7 { u with o := o', B := B', cv := cv' } (set_new HU.out) (by decide)]
              show some (Value.int .i64 (finI u.fin)) = _
              rw [HF.out]; rfl
            have hE := hT.ended (by rw [List.length_set]) (set_new HU.out) (some t)
            have hE2 := hE.setNow q none
            have cn2 : (w1.setCell ⟨g, j * 8 + 7, none⟩ (.int .i64 (t : Int))).cell? ⟨nb, q, none⟩ = some (.int .i64 (j : Int)) := by
              have := hE.now_cell hq4
              rw [HNOW.out] at this
              exact this
            have fn2 : (w1.setCell ⟨g, j * 8 + 7, none⟩ (.int .i64 (t : Int))).frozen? ⟨nb, q, none⟩ = false := Go.Joins.unfrozen_of_block hE.nowb q
            have el : (l.set j { u with o := o', B := B', cv := cv' }).set j { ({ u with o := o', B := B', cv := cv' } : Un) with fin := some t } = l.set j (u.went o' B' cv' t) := by
              rw [List.set_set]
              unfold Un.went
              rw [if_pos h3]
            rw [el] at hE2
            have HLS := hide2 (HL.out.stepped hq4 HQP.out HNOW.out HU.out hE2 (fun q2 => by
              rw [getD4 HL.out.tm.la.2 hq4]
              by_cases e2 : q2 = q
              · rw [if_pos e2, if_pos ⟨e2, h3⟩]
              · rw [if_neg e2, if_neg (fun c => e2 c.1)]) hst)
            clear hE hE2 el hT hst HL h3
            go_wp2
            go_roundw
            case rel => exact ⟨t + 1, K', s', _, _, _, by omega, by go_num, HLS⟩
            case measure => simp [intOf]; omega
          · have hd : decide (o'.st = 5) = false := decide_eq_false h3
            have el : l.set j { u with o := o', B := B', cv := cv' } = l.set j (u.went o' B' cv' t) := by
              unfold Un.went
              rw [if_neg h3, ← HF.out]
            rw [el] at hT
            have HLS := hide2 (HL.out.stepped hq4 HQP.out HNOW.out HU.out hT (fun q2 => by rw [if_neg (fun c => h3 c.2)]) hst)
            clear el hT hst HL h3
            go_wp2
            go_roundw
            case rel => exact ⟨t + 1, K', s', _, _, _, by omega, by go_num, HLS⟩
            case measure => simp [intOf]; omega


    · have d1 : ¬ (t : Int) < (P : Int) + (Tn : Int) := by omega
      have L2 : Tl w wr lb d xs P (P + 4 * KC xs.length) K s l u8 ab nb at4 now4 := by
        have e1 : t = P + 4 * KC xs.length := by rw [HXL.out, ← HTN.out]; omega
        rw [← e1]; exact L.out
      obtain ⟨g1, g2⟩ := L2.done
      have hvf : ∃ vo vc, u8 = .slice vo l.length vc := by
        rcases L2.tm.row.2 with ⟨e, e0⟩ | ⟨g9, c9, cur9, e, -⟩
        · exact ⟨none, 0, by rw [e, e0]⟩
        · exact ⟨_, c9, e⟩
      obtain ⟨vo, vc, ev⟩ := hvf
      subst ev
      have hln : (l.length : Int) = (n : Int) := by rw [g1, HXL.out]
      have hln2 : decide ((l.length : Int) = (n : Int)) = true := decide_eq_true hln
      have hln3 : decide (l.length = n) = true := decide_eq_true (by omega)
      have q0 : wr.cell? ⟨nb, 0, none⟩ = some (.int .i64 (-1)) := by have := L2.tm.now_cell (q := 0) (by decide); rw [g2 0 (by decide)] at this; exact this
      have q1 : wr.cell? ⟨nb, 1, none⟩ = some (.int .i64 (-1)) := by have := L2.tm.now_cell (q := 1) (by decide); rw [g2 1 (by decide)] at this; exact this
      have q2 : wr.cell? ⟨nb, 2, none⟩ = some (.int .i64 (-1)) := by have := L2.tm.now_cell (q := 2) (by decide); rw [g2 2 (by decide)] at this; exact this
      have q3 : wr.cell? ⟨nb, 3, none⟩ = some (.int .i64 (-1)) := by have := L2.tm.now_cell (q := 3) (by decide); rw [g2 3 (by decide)] at this; exact this
      have HL2 := hide2 L2
      have HG1 := hide2 g1
      have HG2 := hide2 g2
      clear L L2 g1 g2
      go_wp2_with fail
      go_quiet (fail)
      go_wp2
      go_ret2
      exact ⟨_, rfl, K, s, l, ab, nb, at4, now4, _, HL2.out.below (below_drewN _ _ _), HG1.out, by rw [HXL.out, ← HTN.out]; omega, HG2.out⟩
end
end Go.Proofs.YtopihgdbfhiejaaDoor
