/-
  A step of a program.
-/
import Derived.Test.YtnpmldlnckbppaaDoorS2
import Derived.Laws.OwnMore
import Derived.Maps.AppendAt
import Derived.Lib.OwnKind
set_option linter.unusedVariables false
set_option linter.unusedSimpArgs false
namespace Go.Proofs.YtnpmldlnckbppaaDoor
open Go.RowKit

theorem row_fr {G : Nat → Prop} {w w' : World} {B : Nat} {e : TypeId} {s : Nat} {v : Value} {k : Nat} {xs : List Value} (h : w.ownsRow B e s v k xs) (hF : Fr G w w') (hn : ∀ j, v.ownBlock = some j → ¬ G j) : w'.ownsRow B e s v k xs := by
  refine ⟨h.1, ?_⟩
  rcases h.2 with h2 | ⟨g, cap, cur, e1, hg, hh, r1, r2, r3, r4⟩
  · exact .inl h2
  · refine .inr ⟨g, cap, cur, e1, hg, (hF.block g (Array.getElem?_eq_some_iff.1 hh).1 (hn g (by rw [e1]; rfl))).trans hh, r1, r2, r3, r4⟩

/-- Do, of an operation that may be. -/
theorem Do_right {w : World} {d g n : Nat} {N : List Int} {m : Int} {F : List Nat} (h : Aw w d g (List.replicate n true) N m F) (o : OpR) (ho : o.ok) (hr : bad n o = false) (hm : 0 ≤ m ∧ m < 4611686018427387904) :
    Calls Tryd.prog 72 #[.pointer (some ⟨d, 0, none⟩), opV o.k o.c o.a o.b] w fun e w' => ∃ x, e = .returned (.tuple #[.int .u64 (act o.k.toNat o.a o.b (N.getD o.c.toNat 0)).1, .int .i64 x]) ∧ Aw w' d g (List.replicate n true) (N.set o.c.toNat (act o.k.toNat o.a o.b (N.getD o.c.toNat 0)).2) (m + 1) F ∧ Fr (fun j => j = d ∨ j = g) w w' := by
  obtain ⟨h1, h2, h3, h4⟩ := ho
  obtain ⟨k, c, a, b⟩ := o
  unfold bad at hr
  simp only [Bool.or_eq_false_iff, decide_eq_false_iff_not] at hr
  have htk : tk (List.replicate n true) c = true := by
    have : c.toNat < n := by omega
    have h0 : 0 ≤ c := by omega
    simp [tk, List.getElem?_replicate, this, h0]
  have hcase : k = 1 ∨ k = 2 ∨ k = 3 ∨ k = 4 := by omega
  simp only at *
  rcases hcase with rfl | rfl | rfl | rfl
  · refine (Do_kind load_deed eg_load (.inl ⟨rfl, rfl⟩) h c a b h3 h4 hm).mono ?_
    rintro e w' ⟨v, x, rfl, hD⟩
    obtain ⟨rfl, rfl, hA⟩ := hD.yes htk
    exact ⟨_, rfl, hA, hD.fr⟩
  · refine (Do_kind store_deed eg_store (.inr (.inl ⟨rfl, rfl⟩)) h c a b h3 h4 hm).mono ?_
    rintro e w' ⟨v, x, rfl, hD⟩
    obtain ⟨rfl, rfl, hA⟩ := hD.yes htk
    exact ⟨_, rfl, hA, hD.fr⟩
  · refine (Do_kind cas_deed eg_cas (.inr (.inr (.inl ⟨rfl, rfl⟩))) h c a b h3 h4 hm).mono ?_
    rintro e w' ⟨v, x, rfl, hD⟩
    obtain ⟨rfl, rfl, hA⟩ := hD.yes htk
    exact ⟨_, rfl, hA, hD.fr⟩
  · refine (Do_kind add_deed eg_add (.inr (.inr (.inr ⟨rfl, rfl⟩))) h c a b h3 h4 hm).mono ?_
    rintro e w' ⟨v, x, rfl, hD⟩
    obtain ⟨rfl, rfl, hA⟩ := hD.yes htk
    exact ⟨_, rfl, hA, hD.fr⟩

/-- What is left of a program whose first k operations are done. -/
def LeftOf (p : PrR) (k : Nat) (v : Value) : Prop :=
  ∃ ao cap, v = .slice ao (p.len - k) cap ∧ (k < p.len → ∃ b off, p.ao = some ⟨b, off, none⟩ ∧ ao = some ⟨b, off + k * 4, none⟩) ∧ p.len - k ≤ cap ∧ cap ≤ maxLen
theorem LeftOf.zero {w : World} {p : PrR} (h : Seq 4 OpR.cells w p.ao p.len p.cap p.ops) : LeftOf p 0 (.slice p.ao p.len p.cap) := by
  refine ⟨p.ao, p.cap, rfl, fun h0 => ?_, h.2.1, h.2.2.1⟩
  obtain ⟨b, off, e, -, -⟩ := h.2.2.2 h0
  exact ⟨b, off, e, by rw [e]; simp⟩

/-- A program in memory. -/
def Pb (w : World) (b d : Nat) (lv v : Value) : Prop := w.heap[b]? = some (.cells #[.pointer (some ⟨d, 0, none⟩), lv, v] 76 (0, 0))
theorem Pb.lt {w : World} {b d : Nat} {lv v : Value} (h : Pb w b d lv v) : b < w.heap.size := (Array.getElem?_eq_some_iff.1 h).1
theorem Pb.cell {w : World} {b d : Nat} {lv v : Value} (h : Pb w b d lv v) : w.cell? ⟨b, 0, none⟩ = some (.pointer (some ⟨d, 0, none⟩)) ∧ w.cell? ⟨b, 1, none⟩ = some lv ∧ w.cell? ⟨b, 2, none⟩ = some v := by
  unfold Pb at h
  refine ⟨?_, ?_, ?_⟩ <;> (rw [Go.Joins.cell_of_block h]; rfl)
theorem Pb.free {w : World} {b d : Nat} {lv v : Value} (h : Pb w b d lv v) (i : Nat) : w.frozen? ⟨b, i, none⟩ = false := Go.Joins.unfrozen_of_block h i
theorem Pb.ned {w : World} {b d g : Nat} {lv v : Value} {T : List Bool} {N : List Int} {m : Int} {F : List Nat} (h : Pb w b d lv v) (hA : Aw w d g T N m F) : b ≠ d ∧ b ≠ g := by
  unfold Pb at h
  refine ⟨fun e => ?_, fun e => ?_⟩
  · have h1 := hA.ab.2.2
    rw [← e, h] at h1
    simp at h1
  · have h1 := hA.nb
    unfold Nb at h1
    rw [← e, h] at h1
    simp at h1
theorem Pb.nrow {w : World} {b d B : Nat} {lv v u : Value} {k : Nat} {xs : List Value} (h : Pb w b d lv v) (hr : w.ownsRow B 32 1 u k xs) : u.ownBlock ≠ some b := fun e => by
  obtain ⟨c, fz, hh⟩ := Go.Lib.ownsRow_kind hr b e
  unfold Pb at h
  rw [h] at hh
  simp at hh

set_option maxRecDepth 100000 in
set_option maxHeartbeats 4000000 in
theorem step_none (w : World) (b d : Nat) (p : PrR) (v lv : Value) (hP : Pb w b d lv v) (hL : LeftOf p p.len lv) :
    Calls Tryd.prog 71 #[.pointer (some ⟨b, 0, none⟩)] w fun e w' => e = .returned (.bool false) ∧ w' = w := by
  obtain ⟨ao, cap, rfl, -, -, -⟩ := hL
  obtain ⟨c0, c1, c2⟩ := hP.cell
  rw [Nat.sub_self] at c1
  go_enter Tryd.func71, Tryd.ntmps71
  go_wp2
  go_ret
  exact ⟨rfl, rfl⟩

theorem row_succ {W : World} {base : Nat} {e : TypeId} {size : Nat} {v : Value} {k : Nat} {xs : List Value} (h : W.ownsRow base e size v (k + 1) xs) : ∃ g cap, v = .slice (some ⟨g, 0, none⟩) (k + 1) cap := by
  rcases h.2 with ⟨_, h0⟩ | ⟨g, cap, cur, rfl, _⟩
  · omega
  · exact ⟨g, cap, rfl⟩

theorem left_run (u : World) (a : Option Addr) (len cap : Nat) (h : 1 ≤ len) : (Instr.slice 39 (.slice a len cap) (some (.int .i64 1)) none none).run Tryd.prog u = .ok (sliced a 1 len cap 4) u := by
  have ht' := Tryd.underlying39
  have he : (sizeOf (Tryd.prog.elem 39)).run Tryd.prog u = .ok 4 u := by kernel_rfl
  rw [run_slice_l u 39 a len cap ht' .i64 1 (by omega) (by omega), he]
  rfl

set_option maxRecDepth 100000 in
set_option maxHeartbeats 4000000 in
theorem step_do (w : World) (B b d g n ll lc : Nat) (q off : Nat) (o : OpR) (N A : List Int) (m x : Int) (F : List Nat) (v : Value) (N' : List Int) (hP : Pb w b d (.slice (some ⟨q, off, none⟩) (ll + 1) lc) v) (hlc : ll + 1 ≤ lc)
    (hA : Aw w d g (List.replicate n true) N m F)
    (q0 : w.cell? ⟨q, off, none⟩ = some (.int .i64 o.k)) (q1 : w.cell? ⟨q, off + 1, none⟩ = some (.int .i64 o.c)) (q2 : w.cell? ⟨q, off + 2, none⟩ = some (.int .u64 o.a)) (q3 : w.cell? ⟨q, off + 3, none⟩ = some (.int .u64 o.b))
    (hrow : w.ownsRow B 32 1 v A.length (A.map (Value.int .u64))) (hB : B ≤ w.heap.size) (hgB : g < B) (hal : A.length < 1000000)
    (HD : ∀ u : World, Aw u d g (List.replicate n true) N m F → Calls Tryd.prog 72 #[.pointer (some ⟨d, 0, none⟩), opV o.k o.c o.a o.b] u fun e w' => ∃ y, e = .returned (.tuple #[.int .u64 x, .int .i64 y]) ∧ Aw w' d g (List.replicate n true) N' (m + 1) F ∧ Fr (fun j => j = d ∨ j = g) u w') :
    Calls Tryd.prog 71 #[.pointer (some ⟨b, 0, none⟩)] w fun e w' => e = .returned (.bool true) ∧ ∃ v', Pb w' b d (sliced (some ⟨q, off, none⟩) 1 (ll + 1) lc 4) v' ∧ Aw w' d g (List.replicate n true) N' (m + 1) F ∧
      w'.ownsRow B 32 1 v' (A ++ [x]).length ((A ++ [x]).map (Value.int .u64)) ∧ (v'.ownBlock = v.ownBlock ∨ ∀ j, v'.ownBlock = some j → w.heap.size ≤ j) ∧ Fr (fun j => j = b ∨ j = d ∨ j = g ∨ v.ownBlock = some j) w w' := by
  obtain ⟨iu, hiu, zu0, zu1, zu2⟩ := info_parts infoU
  obtain ⟨c0, c1, c2⟩ := hP.cell
  obtain ⟨hbd, hbg⟩ := hP.ned hA
  have hlt := hP.lt
  have hnb : v.ownBlock ≠ some b := hP.nrow hrow
  have hnd : ∀ j, v.ownBlock = some j → ¬ (j = d ∨ j = g) := by
    rintro j hj (rfl | rfl)
    · obtain ⟨c, fz, hh⟩ := Go.Lib.ownsRow_kind hrow j hj
      have h1 := hA.ab.2.2
      rw [hh] at h1
      simp at h1
    · have := (hrow.lt j hj).1
      omega
  have t0 : (((ll + 1 : Nat) : Int) == 0) = false := by simp; omega
  have t1 : ((ll + 1) == 0) = false := by simp
  have hl1 : (0 : Int) < ((ll + 1 : Nat) : Int) := by omega
  have hsl : ∀ u : World, (Instr.slice 39 (.slice (some ⟨q, off, none⟩) (ll + 1) lc) (some (.int .i64 1)) none none).run Tryd.prog u = .ok (sliced (some ⟨q, off, none⟩) 1 (ll + 1) lc 4) u := fun u => left_run u _ _ _ (by omega)
  obtain ⟨so, sl, sc, esv⟩ : ∃ so sl sc, sliced (some ⟨q, off, none⟩) 1 (ll + 1) lc 4 = .slice so sl sc := ⟨_, _, _, rfl⟩
  rw [esv]
  simp only [esv] at hsl
  clear esv
  have HH := hide2 (HD w.drew (hA.same (w' := w.drew) rfl rfl))
  clear HD
  have HR := hide2 hrow
  have HP := hide2 hP
  clear hrow hP
  go_enter Tryd.func71, Tryd.ntmps71
  go_wp2
  go_region_with (go_at_call 72; refine HH.out.mono ?_; rintro e w' ⟨y, rfl, hA', hF'⟩)
  all_goals
    have hP1 : Pb w' b d (.slice (some ⟨q, off, none⟩) (ll + 1) lc) v := (hF'.block b hlt (by rintro (e | e) <;> omega)).trans HP.out
    have hrow1 : w'.ownsRow B 32 1 v A.length (A.map (Value.int .u64)) := row_fr HR.out (Fr.trans (Fr.drew (Fr.refl (fun j => j = d ∨ j = g) w)) hF' (fun j hj => .inl hj)) hnd
    obtain ⟨k0, k1, k2⟩ := hP1.cell
    have f1 := hP1.free 1
    have f2 := hP1.free 2
    have hs1 : w.heap.size ≤ w'.heap.size := hF'.size
    have hlt1 := hP1.lt
    have hP2 : Pb (w'.setCell ⟨b, 1, none⟩ (.slice so sl sc)) b d (.slice so sl sc) v := (Go.Joins.block_setCell hP1 _).trans rfl
    have hrow2 : (w'.setCell ⟨b, 1, none⟩ (.slice so sl sc)).ownsRow B 32 1 v A.length (A.map (Value.int .u64)) := row_fr hrow1 (Fr.setCell (p := ⟨b, 1, none⟩) (Fr.refl (fun j => j = b) w') (.inl rfl) _) (fun j hj e => hnb (by rw [hj, e]))
    have hA2 : Aw (w'.setCell ⟨b, 1, none⟩ (.slice so sl sc)) d g (List.replicate n true) N' (m + 1) F := hA'.same (Below.heap_setCell _ _ _ _ (by simpa using Ne.symm hbd)) (Below.heap_setCell _ _ _ _ (by simpa using Ne.symm hbg))
    have F2 : Fr (fun j => j = b ∨ j = d ∨ j = g ∨ v.ownBlock = some j) w (w'.setCell ⟨b, 1, none⟩ (.slice so sl sc)) := (Fr.trans (Fr.drew (Fr.refl (fun j => j = b ∨ j = d ∨ j = g ∨ v.ownBlock = some j) w)) hF' (fun j hj => .inl (by rcases hj with h | h <;> simp [h]))).setCell (.inl (.inl rfl)) _
    have hsz2 : (w'.setCell ⟨b, 1, none⟩ (.slice so sl sc)).heap.size = w'.heap.size := by simp
    have HP2 := hide2 hP2
    have HR2 := hide2 hrow2
    have HA2 := hide2 hA2
    have HF2 := hide2 F2
    have hnew := cell_one_new (w'.setCell ⟨b, 1, none⟩ (.slice so sl sc)) (.int .u64 x) 32
    rw [hsz2] at hnew
    have HNEW := hide2 hnew
    have HSZ := hide2 hsz2
    clear HH hrow1 hP1 hA' hF' hP2 hrow2 hA2 F2 hnew hsz2 c0 c1 c2 q0 q1 q2 q3
    go_wp2_with (at_builtin; refine Hid.out ?_)
    refine hide2 ?_
    refine wpList_append_own_at _ rfl _ _ 26 rfl B 32 iu (.int .u64 0) 1 8 Tryd.underlying26 hiu zu0 zu1 zu2 rfl (by decide) v _ _ rfl (HR2.out.alloc _) ⟨w'.heap.size, 0, none⟩ 1 1 [.int .u64 x] rfl rfl HNEW.out (by simp [Value.oneCell']) (by unfold maxLen; omega) (by omega) (by simp; omega) ?_
    intro v' w4 hown4 hgrow4 _ hb4
    obtain ⟨gt, capt, ev⟩ := row_succ hown4
    have hP4 : Pb w4 b d (.slice so sl sc) v := (hgrow4.block b (by simp; omega) (fun e => hnb e.symm)).trans ((blk_alloc _ _ b (by simpa using hlt1)).trans HP2.out)
    have hA4 : Aw w4 d g (List.replicate n true) N' (m + 1) F := by
      have ha := HA2.out
      have l1 := ha.ab.lt
      have l2 := ha.nb.lt
      refine ha.same ((hgrow4.block d (by simp at l1 ⊢; omega) (fun e => hnd d e.symm (.inl rfl))).trans (blk_alloc _ _ d l1)) ((hgrow4.block g (by simp at l2 ⊢; omega) (fun e => hnd g e.symm (.inr rfl))).trans (blk_alloc _ _ g l2))
    have F4 : Fr (fun j => j = b ∨ j = d ∨ j = g ∨ v.ownBlock = some j) w w4 := (HF2.out.alloc (.cells #[.int .u64 x] 32)).trans (G := fun j => v.ownBlock = some j) (Fr.grown hgrow4 (fun j e => e)) (fun j hj => .inl (by simp [hj]))
    obtain ⟨p0, p1, p2⟩ := hP4.cell
    have g2 := hP4.free 2
    have hlt4 := hP4.lt
    have hnew4 : v'.ownBlock = v.ownBlock ∨ ∀ j, v'.ownBlock = some j → w.heap.size ≤ j := by
      rcases hb4 with h | h
      · exact .inl h
      · refine .inr (fun j hj => ?_)
        rw [h] at hj
        have e1 := Option.some.inj hj
        have e2 := HF2.out.size
        simp at e1 e2
        omega
    have hne4 : v'.ownBlock ≠ some b := hP4.nrow hown4
    have hP5 : Pb (w4.setCell ⟨b, 2, none⟩ v') b d (.slice so sl sc) v' := (Go.Joins.block_setCell hP4 _).trans rfl
    have hA5 : Aw (w4.setCell ⟨b, 2, none⟩ v') d g (List.replicate n true) N' (m + 1) F := hA4.same (Below.heap_setCell _ _ _ _ (by simpa using Ne.symm hbd)) (Below.heap_setCell _ _ _ _ (by simpa using Ne.symm hbg))
    have hrow5 : (w4.setCell ⟨b, 2, none⟩ v').ownsRow B 32 1 v' (A ++ [x]).length ((A ++ [x]).map (Value.int .u64)) := by
      have := row_fr hown4 (Fr.setCell (p := ⟨b, 2, none⟩) (Fr.refl (fun j => j = b) w4) (.inl rfl) v') (fun j hj e => hne4 (by rw [hj, e]))
      simpa using this
    have F5 := F4.setCell (p := ⟨b, 2, none⟩) (.inl (.inl rfl)) v'
    have H5 : Hid (∃ v', Pb (w4.setCell ⟨b, 2, none⟩ v') b d (.slice so sl sc) v' ∧ Aw (w4.setCell ⟨b, 2, none⟩ v') d g (List.replicate n true) N' (m + 1) F ∧ (w4.setCell ⟨b, 2, none⟩ v').ownsRow B 32 1 v' (A ++ [x]).length ((A ++ [x]).map (Value.int .u64)) ∧ (v'.ownBlock = v.ownBlock ∨ ∀ j, v'.ownBlock = some j → w.heap.size ≤ j) ∧ Fr (fun j => j = b ∨ j = d ∨ j = g ∨ v.ownBlock = some j) w (w4.setCell ⟨b, 2, none⟩ v')) := hide2 ⟨v', hP5, hA5, hrow5, hnew4, F5⟩
    have HX : Hid (Pb (w4.setCell ⟨b, 2, none⟩ v') b d (.slice so sl sc) v' ∧ Aw (w4.setCell ⟨b, 2, none⟩ v') d g (List.replicate n true) N' (m + 1) F ∧ (w4.setCell ⟨b, 2, none⟩ v').ownsRow B 32 1 v' (A ++ [x]).length ((A ++ [x]).map (Value.int .u64)) ∧ (v'.ownBlock = v.ownBlock ∨ ∀ j, v'.ownBlock = some j → w.heap.size ≤ j) ∧ Fr (fun j => j = b ∨ j = d ∨ j = g ∨ v.ownBlock = some j) w (w4.setCell ⟨b, 2, none⟩ v')) := hide2 ⟨hP5, hA5, hrow5, hnew4, F5⟩
    clear H5 hP5 hA5 hrow5 hnew4 F5 F4 hA4 hP4 hown4 hgrow4 hb4 hne4 HP2 HA2 HF2 HR2 HNEW HSZ
    subst ev
    go_frame
    go_wp2
    go_ret
    exact ⟨rfl, _, HX.out⟩
end Go.Proofs.YtnpmldlnckbppaaDoor
