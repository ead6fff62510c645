/-
  Turns of the program: lay, longest, waited, layLate.
-/
import Derived.Test.YtnpmldlnckbppaaDoorT1
import Derived.Test.YtnpmldlnckbppaaDoorT2
import Derived.Test.YtnpmldlnckbppaaDoorS3
set_option linter.unusedVariables false
set_option linter.unusedSimpArgs false
namespace Go.Proofs.YtnpmldlnckbppaaDoor
open Go.RowKit

def ints (l : List Nat) : List Int := l.map fun q : Nat => (q : Int)
/-- Where each worker came last. -/
def lastL (n : Nat) (l : List Nat) : List Int := (Wl n l).map fun x : Nat => (l.length : Int) - 1 - (x : Int)
theorem lastL_len (n : Nat) (l : List Nat) : (lastL n l).length = n := by simp [lastL, Wl_len]
theorem lastL_at (n : Nat) (l : List Nat) (k : Nat) (hk : k < n) : (lastL n l).getD k 0 = (l.length : Int) - 1 - ((Wl n l).getD k 0 : Nat) := by
  have h : k < (Wl n l).length := by rw [Wl_len]; exact hk
  simp [lastL, List.getD, List.getElem?_map, List.getElem?_eq_getElem h]
theorem getD_ext {L M : List Int} (h : L.length = M.length) (he : ∀ k, k < L.length → L.getD k 0 = M.getD k 0) : L = M := by
  apply List.ext_getElem h
  intro i h1 h2
  have := he i h1
  simpa [List.getD, List.getElem?_eq_getElem h1, List.getElem?_eq_getElem h2] using this
theorem lastL_snoc (n : Nat) (l : List Nat) (q : Nat) : lastL n (l ++ [q]) = (lastL n l).set q (l.length : Int) := by
  apply getD_ext (by simp [lastL_len])
  intro k hk
  rw [lastL_len] at hk
  rw [lastL_at n _ k hk, Wl_snoc_at n l q k hk, getD_set, lastL_len]
  by_cases e : k = q
  · rw [if_pos e, if_pos ⟨e, by omega⟩]
    rw [List.length_append, List.length_singleton]
    omega
  · rw [if_neg e, if_neg (fun h => e h.1), lastL_at n l k hk, List.length_append, List.length_singleton]
    omega
theorem lastL_nil (n : Nat) : lastL n [] = List.replicate n (-1) := by
  apply getD_ext (by simp [lastL_len])
  intro k hk
  rw [lastL_len] at hk
  rw [lastL_at n _ k hk]
  simp [Wl, List.getD, List.getElem?_replicate, hk]
theorem first_top (n : Nat) (l : List Nat) (hn : 0 < n) : top (Wl n l) < n ∧ (∀ j, j < n → (lastL n l).getD (top (Wl n l)) 0 ≤ (lastL n l).getD j 0) ∧ ∀ j, j < top (Wl n l) → (lastL n l).getD (top (Wl n l)) 0 < (lastL n l).getD j 0 := by
  obtain ⟨t1, t2, t3⟩ := top_spec (Wl n l) (by rw [Wl_len]; exact hn)
  rw [Wl_len] at t1 t2
  refine ⟨t1, fun j hj => ?_, fun j hj => ?_⟩
  · rw [lastL_at n l _ t1, lastL_at n l j hj]
    have := t2 j hj
    omega
  · rw [lastL_at n l _ t1, lastL_at n l j (by omega)]
    have := t3 j hj
    omega

/-- The turns in memory. -/
structure Tn (w : World) (B tb lb n : Nat) (l : List Nat) (lv : Value) : Prop where
  blk : w.heap[tb]? = some (.cells #[lv, .slice (some ⟨lb, 0, none⟩) n n] 63 (0, 0))
  last : Ib w lb (lastL n l)
  row : w.ownsRow B 3 1 lv l.length ((ints l).map (Value.int .i64))
  low : lb < B
  base : B ≤ w.heap.size

section
variable {w w' : World} {B tb lb n : Nat} {l : List Nat} {lv : Value}
theorem Tn.lt (h : Tn w B tb lb n l lv) : tb < w.heap.size := (Array.getElem?_eq_some_iff.1 h.blk).1
theorem Tn.cell (h : Tn w B tb lb n l lv) : w.cell? ⟨tb, 0, none⟩ = some lv ∧ w.cell? ⟨tb, 1, none⟩ = some (.slice (some ⟨lb, 0, none⟩) n n) := by
  have hb := h.blk
  refine ⟨?_, ?_⟩ <;> (rw [Go.Joins.cell_of_block hb]; rfl)
theorem Tn.free (h : Tn w B tb lb n l lv) (i : Nat) : w.frozen? ⟨tb, i, none⟩ = false := Go.Joins.unfrozen_of_block h.blk i
theorem Tn.ne (h : Tn w B tb lb n l lv) : tb ≠ lb := fun e => by
  have h1 := h.blk
  have h2 := h.last
  unfold Ib at h2
  rw [e, h2] at h1
  simp at h1
theorem Tn.nrow (h : Tn w B tb lb n l lv) : lv.ownBlock ≠ some tb ∧ lv.ownBlock ≠ some lb := by
  refine ⟨fun e => ?_, fun e => ?_⟩
  · obtain ⟨c, fz, hh⟩ := Go.Lib.ownsRow_kind h.row tb e
    rw [h.blk] at hh
    simp at hh
  · have := (h.row.lt lb e).1
    have := h.low
    omega
theorem Tn.form (h : Tn w B tb lb n l lv) : ∃ ao cap, lv = .slice ao l.length cap := by
  rcases Go.Joins.ownsRow_forms h.row with ⟨rfl, h0⟩ | ⟨g, cap, rfl⟩
  · exact ⟨none, 0, by rw [h0]⟩
  · exact ⟨_, cap, rfl⟩
theorem Tn.drewN (h : Tn w B tb lb n l lv) (q : Nat) : Tn (w.drewN q) B tb lb n l lv := ⟨h.blk, h.last, row_fr (G := fun _ => False) h.row (Fr.drewN (Fr.refl _ w) q) (fun _ _ e => e), h.low, h.base⟩
end

theorem infoI2 : (Tryd.prog.info? 3).map (fun i => (i.zero, i.size, i.bytes)) = some (some (.int .i64 0), 1, 8) := infoI

set_option maxRecDepth 100000 in
set_option maxHeartbeats 4000000 in
/-- lay: a worker is laid. -/
theorem lay_any {w : World} {B tb lb n : Nat} {l : List Nat} {lv : Value} (h : Tn w B tb lb n l lv) (q : Nat) (hq : q < n) (hl : l.length < 100000000) :
    Calls Tryd.prog 29 #[.pointer (some ⟨tb, 0, none⟩), .int .i64 (q : Int)] w fun e w' => e = .returned (.tuple #[]) ∧ (∃ lv', Tn w' B tb lb n (l ++ [q]) lv') ∧ Fr (fun j => j = tb ∨ j = lb ∨ B ≤ j) w w' := by
  obtain ⟨i0, hi0, z0, z1, z2⟩ := info_parts infoI2
  obtain ⟨c0, c1⟩ := h.cell
  obtain ⟨ao, cap, e⟩ := h.form
  obtain ⟨n1, n2⟩ := h.nrow
  have hne := h.ne
  have hlt := h.lt
  have hll := h.last.lt
  have hqL : q < (lastL n l).length := by rw [lastL_len]; exact hq
  have k0 := h.last.cell q hqL
  have k1 := h.last.free q
  have f0 := h.free 0
  have hq2 : (q : Int) < (n : Int) := by omega
  subst e
  have hrow := h.row
  have HT := hide2 h
  have hbase := h.base
  have hlow := h.low
  have h1 : Ib ((w.setCell ⟨lb, q, none⟩ (.int .i64 (l.length : Int))).drew) lb (lastL n (l ++ [q])) := by
    rw [lastL_snoc]
    exact h.last.set q _
  have hblk1 : ((w.setCell ⟨lb, q, none⟩ (.int .i64 (l.length : Int))).drew).heap[tb]? = some (.cells #[.slice ao l.length cap, .slice (some ⟨lb, 0, none⟩) n n] 63 (0, 0)) := (Below.heap_setCell _ _ _ _ (by simpa using hne)).trans h.blk
  have hF1 : Fr (fun j => j = lb) w ((w.setCell ⟨lb, q, none⟩ (.int .i64 (l.length : Int))).drew) := (Fr.setCell (p := ⟨lb, q, none⟩) (Fr.refl (fun j => j = lb) w) (.inl rfl) _).drew
  have hrow1 : ((w.setCell ⟨lb, q, none⟩ (.int .i64 (l.length : Int))).drew).ownsRow B 3 1 (.slice ao l.length cap) l.length ((ints l).map (Value.int .i64)) := row_fr hrow hF1 (fun j hj e => n2 (by rw [hj, e]))
  have HW := hide2 (And.intro h1 (And.intro hblk1 (And.intro hF1 hrow1)))
  clear h hrow h1 hblk1 hF1 hrow1
  have hsz1 : ((w.setCell ⟨lb, q, none⟩ (.int .i64 (l.length : Int))).drew).heap.size = w.heap.size := by simp
  have HSZ := hide2 hsz1
  clear hsz1
  go_enter Tryd.func29, Tryd.ntmps29
  go_wp2
  go_region
  all_goals
    obtain ⟨w1, hw1⟩ : ∃ x, x = (w.setCell ⟨lb, q, none⟩ (.int .i64 (l.length : Int))).drew := ⟨_, rfl⟩
    rw [← hw1]
    rw [← hw1] at HW HSZ
    obtain ⟨h1, hblk1, hF1, hrow1⟩ := HW.out
    have hsa : w.heap.size ≤ w1.heap.size := Nat.le_of_eq HSZ.out.symm
    clear hw1 HW HSZ
    have p0 : w1.cell? ⟨tb, 0, none⟩ = some (.slice ao l.length cap) := by rw [Go.Joins.cell_of_block hblk1]; rfl
    have g0 := Go.Joins.unfrozen_of_block hblk1 0
    have hlt1 : tb < w1.heap.size := by omega
    have hnew := cell_one_new w1 (.int .i64 (q : Int)) 3
    have HNEW := hide2 hnew
    have HR1 := hide2 hrow1
    have HB1 := hide2 hblk1
    have HL1 := hide2 h1
    clear hnew hrow1 hblk1 h1 c0 c1 k0 k1 f0
    go_wp2_with (at_builtin; refine Hid.out ?_)
    refine hide2 ?_
    refine wpList_append_own_at _ rfl _ _ 23 rfl B 3 i0 (.int .i64 0) 1 8 Tryd.underlying23 hi0 z0 z1 z2 rfl (by decide) (.slice ao l.length cap) _ _ rfl (HR1.out.alloc _) ⟨w1.heap.size, 0, none⟩ 1 1 [.int .i64 (q : Int)] rfl rfl HNEW.out (by simp [Value.oneCell']) (by unfold maxLen; omega) (by omega) (by simp; omega) ?_
    intro v' w4 hown4 hgrow4 _ hb4
    obtain ⟨gt, capt, ev⟩ := row_succ hown4
    have hblk4 := (hgrow4.block tb (by simp; omega) (fun e => n1 e.symm)).trans ((blk_alloc _ _ tb hlt1).trans HB1.out)
    have hlast4 : Ib w4 lb (lastL n (l ++ [q])) := (hgrow4.block lb (by simp; omega) (fun e => n2 e.symm)).trans ((blk_alloc _ _ lb (by omega)).trans HL1.out)
    have hne4 : v'.ownBlock ≠ some tb := fun e => by
      obtain ⟨c, fz, hh⟩ := Go.Lib.ownsRow_kind hown4 tb e
      rw [hblk4] at hh
      simp at hh
    have p4 : w4.cell? ⟨tb, 0, none⟩ = some (.slice ao l.length cap) := by rw [Go.Joins.cell_of_block hblk4]; rfl
    have g4 := Go.Joins.unfrozen_of_block hblk4 0
    have hlt4 : tb < w4.heap.size := (Array.getElem?_eq_some_iff.1 hblk4).1
    have hs4 := hgrow4.size
    have hT5 : Tn (w4.setCell ⟨tb, 0, none⟩ v') B tb lb n (l ++ [q]) v' := by
      refine ⟨(Go.Joins.block_setCell hblk4 _).trans rfl, (Below.heap_setCell _ _ _ _ (by simpa using Ne.symm hne)).trans hlast4, ?_, hlow, by simp at hs4 ⊢; omega⟩
      have := row_fr hown4 (Fr.setCell (p := ⟨tb, 0, none⟩) (Fr.refl (fun j => j = tb) w4) (.inl rfl) v') (fun j hj e => hne4 (by rw [hj, e]))
      simpa [ints] using this
    have F4 : Fr (fun j => j = tb ∨ j = lb ∨ B ≤ j) w w4 := ((hF1.mono (G := fun j => j = tb ∨ j = lb ∨ B ≤ j) (fun j _ e => .inr (.inl e))).alloc (.cells #[.int .i64 (q : Int)] 3)).trans (G := fun j => B ≤ j) (Fr.grown hgrow4 (fun j e => (HR1.out.lt j e).1)) (fun j hj => .inl (.inr (.inr hj)))
    have F5 := F4.setCell (p := ⟨tb, 0, none⟩) (.inl (.inl rfl)) v'
    have HX := hide2 (And.intro (show ∃ lv', Tn (w4.setCell ⟨tb, 0, none⟩ v') B tb lb n (l ++ [q]) lv' from ⟨_, hT5⟩) F5)
    clear hT5 F5 F4 hown4 hgrow4 hb4 hlast4 hblk4 hne4 HNEW HR1 HB1 HL1 HT hF1
    subst ev
    go_frame
    go_wp2
    go_end0
    exact ⟨rfl, HX.out⟩

set_option maxRecDepth 100000 in
set_option maxHeartbeats 2000000 in
theorem longest_any {w : World} {B tb lb n : Nat} {l : List Nat} {lv : Value} (h : Tn w B tb lb n l lv) (hn : 1 ≤ n) (hn2 : n ≤ 16) :
    Calls Tryd.prog 38 #[.pointer (some ⟨tb, 0, none⟩)] w fun e w' => e = .returned (.int .i64 (top (Wl n l) : Nat)) ∧ ∃ q, w' = w.drewN q := by
  obtain ⟨t1, t2, t3⟩ := first_top n l (by omega)
  have hmin : ∀ q, Calls Tryd.prog 48 #[.slice (some ⟨lb, 0, none⟩) n n] (w.drewN q) fun e w' => e = .returned (.int .i64 ((lastL n l).getD (top (Wl n l)) 0)) ∧ w' = w.drewN q := fun q => by
    refine (min_ints (w.drewN q) lb n (lastL n l) (h.drewN q).last (lastL_len n l) hn hn2).mono ?_
    rintro e w' ⟨⟨x, rfl, ⟨i, hi, hx⟩, hall⟩, rfl⟩
    have a := t2 i hi
    have b := hall _ t1
    exact ⟨ret_int (by omega), rfl⟩
  have hidx : ∀ q, Calls Tryd.prog 47 #[.slice (some ⟨lb, 0, none⟩) n n, .int .i64 ((lastL n l).getD (top (Wl n l)) 0)] (w.drewN q) fun e w' => e = .returned (.int .i64 (top (Wl n l) : Nat)) ∧ w' = w.drewN q := fun q =>
    index_ints (w.drewN q) lb n (top (Wl n l)) _ (lastL n l) (h.drewN q).last (lastL_len n l) hn2 t1 rfl (fun j hj => by have := t3 j hj; omega)
  obtain ⟨c0, c1⟩ := h.cell
  generalize (lastL n l).getD (top (Wl n l)) 0 = x at *
  generalize top (Wl n l) = t at *
  clear t2 t3 h
  go_enter Tryd.func38, Tryd.ntmps38
  go_wp2
  go_quiet ((first | (go_at_call 48; exact Calls.quiet_of_same (hmin _)) | (go_at_call 47; exact Calls.quiet_of_same (hidx _))))
  go_wp2
  go_ret
  exact ⟨rfl, _, rfl⟩

set_option maxRecDepth 100000 in
set_option maxHeartbeats 2000000 in
theorem waited_any {w : World} {B tb lb n : Nat} {l : List Nat} {lv : Value} (h : Tn w B tb lb n l lv) (q : Nat) (hq : q < n) (hl : l.length < 100000000) :
    Calls Tryd.prog 39 #[.pointer (some ⟨tb, 0, none⟩), .int .i64 (q : Int)] w fun e w' => e = .returned (.int .i64 ((Wl n l).getD q 0 : Nat)) ∧ ∃ m, w' = w.drewN m := by
  obtain ⟨c0, c1⟩ := h.cell
  obtain ⟨ao, cap, rfl⟩ := h.form
  have k0 := h.last.cell q (by rw [lastL_len]; exact hq)
  rw [lastL_at n l q hq] at k0
  have hle := Wl_le n l q hq
  have hq2 : (q : Int) < (n : Int) := by omega
  generalize (Wl n l).getD q 0 = x at *
  generalize l.length = len at *
  have E1 : Hid (IntKind.i64.wrap (IntKind.i64.wrap ((len : Int) - 1) - ((len : Int) - 1 - (x : Int))) = (x : Int)) := hide2 (by simp only [IntKind.wrap_i64]; omega)
  clear h
  go_enter Tryd.func39, Tryd.ntmps39
  go_wp2
  go_quiet (fail)
  go_wp2
  go_ret
  exact ⟨ret_int (by go_arith), _, rfl⟩

/-- How long the list is, read from memory. -/
def lenAt (w : World) (tb : Nat) : Nat := match w.cell? ⟨tb, 0, none⟩ with
  | some (.slice _ l _) => l
  | _ => 0
theorem Tn.lenAt {w : World} {B tb lb n : Nat} {l : List Nat} {lv : Value} (h : Tn w B tb lb n l lv) : lenAt w tb = l.length := by
  obtain ⟨ao, cap, rfl⟩ := h.form
  unfold Go.Proofs.YtnpmldlnckbppaaDoor.lenAt
  rw [h.cell.1]

set_option maxRecDepth 100000 in
set_option maxHeartbeats 4000000 in
/-- layLate: all who are late are laid. -/
theorem layLate_any {w : World} {B tb lb n E : Nat} {l : List Nat} {lv : Value} (h : Tn w B tb lb n l lv) (hn : 1 ≤ n) (hn2 : n ≤ 16) (hE : n ≤ E) (hE2 : E ≤ 1000) (hl : l.length < 90000000) :
    Calls Tryd.prog 28 #[.pointer (some ⟨tb, 0, none⟩), .int .i64 (E : Int)] w fun e w' => e = .returned (.tuple #[]) ∧ (∃ lv', Tn w' B tb lb n (lateF n E n l) lv') ∧ Fr (fun j => j = tb ∨ j = lb ∨ B ≤ j) w w' ∧ (lateF n E n l).length ≤ l.length + n := by
  go_enter Tryd.func28, Tryd.ntmps28
  go_wp2
  go_loopw [] (fun wr => ∃ (s : Nat) (l' : List Nat) (lv' : Value), Sofar n l' s ∧ l'.length = l.length + s ∧ lateF n E n l = lateF n E (n - s) l' ∧ Tn wr B tb lb n l' lv' ∧ Fr (fun j => j = tb ∨ j = lb ∨ B ≤ j) w wr) (fun wr => l.length + n - lenAt wr tb)
  case atStart => exact ⟨0, l, lv, Sofar.zero n l, rfl, rfl, h, Fr.refl _ _⟩
  case round =>
    obtain ⟨s, l', lv', hs, hll, hlf, hT, hF⟩ := hrel
    have hn0 : 0 < n := by omega
    obtain ⟨t1, -, -⟩ := first_top n l' hn0
    have hsn := hs.le
    have HL := hide2 (longest_any hT hn hn2)
    have HW : ∀ q, Hid (Calls Tryd.prog 39 #[.pointer (some ⟨tb, 0, none⟩), .int .i64 (top (Wl n l') : Nat)] (wr.drewN q) fun e w' => e = .returned (.int .i64 ((Wl n l').getD (top (Wl n l')) 0 : Nat)) ∧ ∃ m, w' = (wr.drewN q).drewN m) := fun q => hide2 (waited_any (hT.drewN q) _ t1 (by omega))
    have HT := hide2 hT
    have HF := hide2 hF
    have HS := hide2 hs
    have HLF := hide2 hlf
    by_cases hla : isLate n E l'
    · obtain ⟨hs1, hs2⟩ := hs.next hn0 hE hla
      have HY : ∀ q, Hid (Calls Tryd.prog 29 #[.pointer (some ⟨tb, 0, none⟩), .int .i64 (top (Wl n l') : Nat)] (wr.drewN q) fun e w' => e = .returned (.tuple #[]) ∧ (∃ lv', Tn w' B tb lb n (l' ++ [top (Wl n l')]) lv') ∧ Fr (fun j => j = tb ∨ j = lb ∨ B ≤ j) (wr.drewN q) w') := fun q => hide2 (lay_any (hT.drewN q) _ t1 (by omega))
      have t5 : decide (((Wl n l').getD (top (Wl n l')) 0 : Nat) < (E : Int)) = false := by
        unfold isLate at hla
        exact decide_eq_false (by omega)
      have t6 : ¬ (((Wl n l').getD (top (Wl n l')) 0 : Nat) : Int) < (E : Int) := by
        unfold isLate at hla
        omega
      have HE : Hid (lateF n E (n - s) l' = lateF n E (n - (s + 1)) (l' ++ [top (Wl n l')])) := hide2 (by
        rw [show n - s = (n - (s + 1)) + 1 by omega]
        exact lateF_step hla)
      have hlen' : (l' ++ [top (Wl n l')]).length = l.length + (s + 1) := by rw [List.length_append, List.length_singleton, hll]; omega
      have HLN := hide2 hlen'
      have hm0 := hT.lenAt
      have HM0 := hide2 hm0
      have HS2 := hide2 hs2
      clear hT hF hs hlf hla hs2 hlen' hm0
      generalize (Wl n l').getD (top (Wl n l')) 0 = x at *
      generalize top (Wl n l') = t at *
      go_wp2_with fail
      refine HL.out.mono ?_
      rintro e w1 ⟨rfl, q, rfl⟩
      clear HL
      have HW1 := HW q
      go_wp2_with fail
      refine HW1.out.mono ?_
      rintro e w2 ⟨rfl, m, rfl⟩
      clear HW1 HW
      rw [World.drewN_drewN]
      have HY1 := HY (q + m)
      go_wp2_with fail
      refine HY1.out.mono ?_
      rintro e w3 ⟨rfl, ⟨lv3, hT3⟩, hF3⟩
      clear HY1 HY
      have hm3 := hT3.lenAt
      have HM3 := hide2 hm3
      clear hm3
      go_wp2
      go_roundw
      case rel => exact ⟨s + 1, _, lv3, HS2.out, HLN.out, HLF.out.trans HE.out, hT3, (HF.out.drewN (q + m)).trans hF3 (fun j hj => .inl hj)⟩
      case measure =>
        rw [HM3.out, HM0.out, HLN.out]
        omega
    · have t5 : decide (((Wl n l').getD (top (Wl n l')) 0 : Nat) < (E : Int)) = true := by
        unfold isLate at hla
        exact decide_eq_true (by omega)
      have t6 : (((Wl n l').getD (top (Wl n l')) 0 : Nat) : Int) < (E : Int) := by
        unfold isLate at hla
        omega
      have HE : Hid (lateF n E (n - s) l' = l') := hide2 (lateF_stop hla)
      clear hT hF hs hlf hla
      generalize (Wl n l').getD (top (Wl n l')) 0 = x at *
      generalize top (Wl n l') = t at *
      go_wp2_with fail
      refine HL.out.mono ?_
      rintro e w1 ⟨rfl, q, rfl⟩
      clear HL
      have HW1 := HW q
      go_wp2_with fail
      refine HW1.out.mono ?_
      rintro e w2 ⟨rfl, m, rfl⟩
      clear HW1 HW
      rw [World.drewN_drewN]
      go_wp2
      have e1 := HLF.out.trans HE.out
      have hfin : (∃ lv', Tn (wr.drewN (q + m)) B tb lb n (lateF n E n l) lv') ∧ Fr (fun j => j = tb ∨ j = lb ∨ B ≤ j) w (wr.drewN (q + m)) ∧ (lateF n E n l).length ≤ l.length + n := by
        rw [e1]
        exact ⟨⟨_, HT.out.drewN _⟩, HF.out.drewN _, by omega⟩
      go_returns
      exact ⟨rfl, hfin⟩
end Go.Proofs.YtnpmldlnckbppaaDoor
