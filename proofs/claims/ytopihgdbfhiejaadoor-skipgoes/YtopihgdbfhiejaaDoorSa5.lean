/-
  An operation in memory. (Printed by gen_sa5.py.)
-/
import Derived.Test.YtopihgdbfhiejaaDoorSa3
import Derived.Test.YtopihgdbfhiejaaDoorSa4
set_option linter.unusedVariables false
set_option linter.unusedSimpArgs false
namespace Go.Proofs.YtopihgdbfhiejaaDoor
open Go.RowKit Go.Maps

section
variable {w w' : World} {K : Nat → Prop} {lb d g gt tc : Nat} {sv : Value} {T : List Bool} {N : List Int} {m : Int} {F : List Nat} {s : Sl}
/-- link: a tower is put behind a place, if its cell has the number that it had. -/
theorem Lm.link (h : Lm w K lb d g gt tc sv T N m F s) {i l num j : Nat} (hi : i < s.tw.length) (hl : l < 8) (hnum : num < 4611686018427387904) (hj : j < 4611686018427387904) (ht : T.getD ((s.at i).cs l) false = true) (hm : 0 ≤ m ∧ m < 4611686018427387904) (ok : Bool) (hok : ok = decide (N.getD ((s.at i).cs l) 0 = num)) :
    Calls Tryd.prog 62 #[.pointer (some ⟨lb, 0, none⟩), .agg #[.int .i64 (i : Int), .int .u64 (num : Int)], .int .i64 (l : Int), .int .i64 (j : Int)] w fun e w' =>
      e = .returned (.bool ok) ∧ Lm w' K lb d g gt tc sv T (if ok = true then N.set ((s.at i).cs l) (j : Int) else N) (m + 1) F s ∧ Fr (fun j => j = d ∨ j = g) w w' := by
  obtain ⟨w1, hw1⟩ : ∃ y, y = w.alloc (.cells #[.int .i64 (i : Int), .int .u64 (num : Int)] 79) := ⟨_, rfl⟩
  have hB : Below w.heap.size w w1 := by rw [hw1]; exact (Below.refl _ w).alloc (Nat.le_refl _) _
  have hblk : w1.heap[w.heap.size]? = some (.cells #[.int .i64 (i : Int), .int .u64 (num : Int)] 79 (0, 0)) := by rw [hw1]; exact heap_alloc_new _ _
  have hsz : w1.heap.size = w.heap.size + 1 := by rw [hw1]; simp
  have h1 := h.below hB
  have hFd : Fr (fun _ => False) w w1.drew := (Fr.below (F := fun _ => False) hB).drew
  have hd := h.keep hFd (fun _ _ e => e) (fun e => e)
  have hcap := h.cap
  have hlt2 := getD_lt ht
  have hTl := h.aw.len
  have hgl := h.kl g (h.kk g (by simp))
  have hdl := h.kl d (h.kk d (by simp))
  refine (link_raw (w := w) (ok := ok) (R := fun w' => Lm w' K lb d g gt tc sv T (if ok = true then N.set ((s.at i).cs l) (j : Int) else N) (m + 1) F s ∧ Fr (fun j => j = d ∨ j = g) w1 w') hi hl hj (by omega) hcap.1 w.heap.size rfl w1 hw1 h1.lk.cells.1 h1.lk.cells.2.1 (h1.csAt hi hl) (by rw [Go.Joins.cell_of_block hblk]; rfl) (by rw [Go.Joins.cell_of_block hblk]; rfl) (fun u hu => ?_) ?_).mono ?_
  · have hb2 : u.heap[w.heap.size]? = some (.cells #[.int .i64 (i : Int), .int .u64 (num : Int)] 79 (0, 0)) := (hu.2.block w.heap.size (by omega) (by rintro (e | e) <;> omega)).trans hblk
    exact ⟨hu.1.lk.cells.1, hu.1.lk.cells.2.1, hu.1.csAt hi hl, by rw [Go.Joins.cell_of_block hb2]; rfl, by rw [Go.Joins.cell_of_block hb2]; rfl⟩
  · refine (CAS_any hd.aw ((s.at i).cs l : Int) (num : Int) (j : Int) (by omega) (by omega) hm).mono ?_
    rintro e w2 ⟨v, x, rfl, hD⟩
    obtain ⟨e1, e2, hA⟩ := hD.yes (tk_of ht)
    have hFF : Fr (fun j => j = d ∨ j = g) w1 w2 := (((Fr.refl (fun j => j = d ∨ j = g) w1).drew).trans hD.fr (fun j e => .inl e))
    by_cases hq : N.getD ((s.at i).cs l) 0 = num
    · have hk : ok = true := by rw [hok]; exact decide_eq_true hq
      have ea : act 3 (num : Int) (j : Int) (N.getD (((s.at i).cs l : Int)).toNat 0) = (1, (j : Int)) := by
        unfold act
        rw [if_neg (by decide), if_neg (by decide), if_pos rfl, if_pos (by simpa using hq)]
      rw [ea] at e1 hA
      rw [hk, if_pos rfl]
      subst e1 e2
      exact ⟨rfl, hd.arena hD.fr hA, hFF⟩
    · have hk : ok = false := by rw [hok]; exact decide_eq_false hq
      have ea : act 3 (num : Int) (j : Int) (N.getD (((s.at i).cs l : Int)).toNat 0) = (0, N.getD ((s.at i).cs l) 0) := by
        unfold act
        rw [if_neg (by decide), if_neg (by decide), if_pos rfl, if_neg (by simpa using hq)]
        rfl
      rw [ea] at e1 hA
      rw [show N.set (((s.at i).cs l : Int)).toNat (N.getD ((s.at i).cs l) 0) = N from set_self N _ (by omega)] at hA
      rw [hk, if_neg (by decide)]
      subst e1 e2
      exact ⟨rfl, hd.arena hD.fr hA, hFF⟩
  · rintro e w2 ⟨rfl, h2, h3⟩
    exact ⟨rfl, h2, (Fr.below (F := fun j => j = d ∨ j = g) hB).trans h3 (fun j e => .inl e)⟩
end

/-- An operation. -/
structure Opm where
  kind : Nat
  k : ByteArray
  r : Int
  h : Nat
  st : Nat
  lv : Nat
  pt : Nat → Nat
  pn : Nat → Nat
  cs : List Nat
  full : Bool
  tw : Nat
  fk : ByteArray
  nm : Int
  had : Bool
  code : Int

def opL (lp cv : Value) (o : Opm) : Array Value := #[lp, .int .i64 (o.kind : Nat), .int .u8 (kb o.k 0), .int .u8 (kb o.k 1), .int .u8 (kb o.k 2), .int .u8 (kb o.k 3), .int .u8 (kb o.k 4), .int .u8 (kb o.k 5), .int .u8 (kb o.k 6), .int .u8 (kb o.k 7), .int .u8 (kb o.k 8), .int .u8 (kb o.k 9), .int .u8 (kb o.k 10), .int .u8 (kb o.k 11), .int .u8 (kb o.k 12), .int .u8 (kb o.k 13), .int .u8 (kb o.k 14), .int .u8 (kb o.k 15), .int .u8 (kb o.k 16), .int .i64 o.r, .int .i64 (o.h : Nat), .int .i64 (o.st : Nat), .int .i64 (o.lv : Nat), .int .i64 (o.pt 0 : Nat), .int .u64 (o.pn 0 : Nat), .int .i64 (o.pt 1 : Nat), .int .u64 (o.pn 1 : Nat), .int .i64 (o.pt 2 : Nat), .int .u64 (o.pn 2 : Nat), .int .i64 (o.pt 3 : Nat), .int .u64 (o.pn 3 : Nat), .int .i64 (o.pt 4 : Nat), .int .u64 (o.pn 4 : Nat), .int .i64 (o.pt 5 : Nat), .int .u64 (o.pn 5 : Nat), .int .i64 (o.pt 6 : Nat), .int .u64 (o.pn 6 : Nat), .int .i64 (o.pt 7 : Nat), .int .u64 (o.pn 7 : Nat), cv, .bool o.full, .int .i64 (o.tw : Nat), .int .u8 (kb o.fk 0), .int .u8 (kb o.fk 1), .int .u8 (kb o.fk 2), .int .u8 (kb o.fk 3), .int .u8 (kb o.fk 4), .int .u8 (kb o.fk 5), .int .u8 (kb o.fk 6), .int .u8 (kb o.fk 7), .int .u8 (kb o.fk 8), .int .u8 (kb o.fk 9), .int .u8 (kb o.fk 10), .int .u8 (kb o.fk 11), .int .u8 (kb o.fk 12), .int .u8 (kb o.fk 13), .int .u8 (kb o.fk 14), .int .u8 (kb o.fk 15), .int .u8 (kb o.fk 16), .int .i64 o.nm, .bool o.had, .int .i64 o.code]
def Om (w : World) (ob : Nat) (lp cv : Value) (o : Opm) : Prop := w.heap[ob]? = some (.cells (opL lp cv o) 82 (0, 0))
section
variable {w w' : World} {ob : Nat} {lp cv : Value} {o : Opm}
theorem Om.lt (h : Om w ob lp cv o) : ob < w.heap.size := (Array.getElem?_eq_some_iff.1 h).1
theorem Om.free (h : Om w ob lp cv o) (i : Nat) : w.frozen? ⟨ob, i, none⟩ = false := Go.Joins.unfrozen_of_block h i
theorem Om.same (h : Om w ob lp cv o) (e : w'.heap[ob]? = w.heap[ob]?) : Om w' ob lp cv o := e.trans h
theorem Om.fr {G : Nat → Prop} (h : Om w ob lp cv o) (k : Fr G w w') (hG : ¬ G ob) : Om w' ob lp cv o := h.same (k.block ob h.lt hG)
theorem Om.cell (h : Om w ob lp cv o) (i : Nat) : w.cell? ⟨ob, i, none⟩ = (opL lp cv o)[i]? := by
  unfold Om at h
  rw [Go.Joins.cell_of_block h]
theorem Om.cells (h : Om w ob lp cv o) : w.cell? ⟨ob, 0, none⟩ = some lp ∧ w.cell? ⟨ob, 1, none⟩ = some (.int .i64 (o.kind : Nat)) ∧ w.cell? ⟨ob, 19, none⟩ = some (.int .i64 o.r) ∧ w.cell? ⟨ob, 20, none⟩ = some (.int .i64 (o.h : Nat)) ∧ w.cell? ⟨ob, 21, none⟩ = some (.int .i64 (o.st : Nat)) ∧ w.cell? ⟨ob, 22, none⟩ = some (.int .i64 (o.lv : Nat)) ∧
    w.cell? ⟨ob, 39, none⟩ = some cv ∧ w.cell? ⟨ob, 40, none⟩ = some (.bool o.full) ∧ w.cell? ⟨ob, 41, none⟩ = some (.int .i64 (o.tw : Nat)) ∧ w.cell? ⟨ob, 59, none⟩ = some (.int .i64 o.nm) ∧ w.cell? ⟨ob, 60, none⟩ = some (.bool o.had) ∧ w.cell? ⟨ob, 61, none⟩ = some (.int .i64 o.code) := by
  refine ⟨?_, ?_, ?_, ?_, ?_, ?_, ?_, ?_, ?_, ?_, ?_, ?_⟩ <;> (rw [h.cell]; rfl)
theorem Om.ptAt (h : Om w ob lp cv o) {l : Nat} (hl : l < 8) : w.cell? ⟨ob, 23 + l * 2, none⟩ = some (.int .i64 (o.pt l : Nat)) := by
  rw [h.cell]
  rcases (show l = 0 ∨ l = 1 ∨ l = 2 ∨ l = 3 ∨ l = 4 ∨ l = 5 ∨ l = 6 ∨ l = 7 by omega) with rfl | rfl | rfl | rfl | rfl | rfl | rfl | rfl <;> rfl
theorem Om.pnAt (h : Om w ob lp cv o) {l : Nat} (hl : l < 8) : w.cell? ⟨ob, 23 + l * 2 + 1, none⟩ = some (.int .u64 (o.pn l : Nat)) := by
  rw [h.cell]
  rcases (show l = 0 ∨ l = 1 ∨ l = 2 ∨ l = 3 ∨ l = 4 ∨ l = 5 ∨ l = 6 ∨ l = 7 by omega) with rfl | rfl | rfl | rfl | rfl | rfl | rfl | rfl <;> rfl
theorem Om.setPt (h : Om w ob lp cv o) {l : Nat} (hl : l < 8) (x : Nat) : Om (w.setCell ⟨ob, 23 + l * 2, none⟩ (.int .i64 (x : Nat))) ob lp cv { o with pt := upd o.pt l x } := by
  unfold Om at *
  rw [Go.Joins.block_setCell h]
  rcases (show l = 0 ∨ l = 1 ∨ l = 2 ∨ l = 3 ∨ l = 4 ∨ l = 5 ∨ l = 6 ∨ l = 7 by omega) with rfl | rfl | rfl | rfl | rfl | rfl | rfl | rfl <;> rfl
theorem Om.setPn (h : Om w ob lp cv o) {l : Nat} (hl : l < 8) (x : Nat) : Om (w.setCell ⟨ob, 23 + l * 2 + 1, none⟩ (.int .u64 (x : Nat))) ob lp cv { o with pn := upd o.pn l x } := by
  unfold Om at *
  rw [Go.Joins.block_setCell h]
  rcases (show l = 0 ∨ l = 1 ∨ l = 2 ∨ l = 3 ∨ l = 4 ∨ l = 5 ∨ l = 6 ∨ l = 7 by omega) with rfl | rfl | rfl | rfl | rfl | rfl | rfl | rfl <;> rfl
theorem Om.keyAt (h : Om w ob lp cv o) : w.rangeAt ob 2 (kC o.k).toList := by
  intro j v hv
  have hj : j < 17 := (List.getElem?_eq_some_iff.1 hv).1
  rw [h.cell, ← hv]
  rcases (show j = 0 ∨ j = 1 ∨ j = 2 ∨ j = 3 ∨ j = 4 ∨ j = 5 ∨ j = 6 ∨ j = 7 ∨ j = 8 ∨ j = 9 ∨ j = 10 ∨ j = 11 ∨ j = 12 ∨ j = 13 ∨ j = 14 ∨ j = 15 ∨ j = 16 by omega) with rfl | rfl | rfl | rfl | rfl | rfl | rfl | rfl | rfl | rfl | rfl | rfl | rfl | rfl | rfl | rfl | rfl <;> rfl
theorem Om.foundAt (h : Om w ob lp cv o) : w.rangeAt ob 42 (kC o.fk).toList := by
  intro j v hv
  have hj : j < 17 := (List.getElem?_eq_some_iff.1 hv).1
  rw [h.cell, ← hv]
  rcases (show j = 0 ∨ j = 1 ∨ j = 2 ∨ j = 3 ∨ j = 4 ∨ j = 5 ∨ j = 6 ∨ j = 7 ∨ j = 8 ∨ j = 9 ∨ j = 10 ∨ j = 11 ∨ j = 12 ∨ j = 13 ∨ j = 14 ∨ j = 15 ∨ j = 16 by omega) with rfl | rfl | rfl | rfl | rfl | rfl | rfl | rfl | rfl | rfl | rfl | rfl | rfl | rfl | rfl | rfl | rfl <;> rfl
set_option maxHeartbeats 1000000 in
theorem Om.setFound (h : Om w ob lp cv o) (k : ByteArray) : Om (w.setCells ob 42 (kC k).toList) ob lp cv { o with fk := k } := by
  have h1 := run_storeCells_at Tryd.prog ob 42 82 (kC k).toList 0 (opL lp cv o) w h (by show 42 + 0 + 17 ≤ 62; omega) (kC_one k)
  have h2 := run_storeCells_cells (P := Tryd.prog) ob 42 (kC k).toList 0 w (fun j hj => by
      have hj2 : j < 17 := hj
      rw [h.cell, Array.getElem?_eq_getElem (by show _ < 62; omega)]; rfl) (fun j hj => h.free _) (kC_one k)
  have e := (Result.ok.inj (h2.symm.trans h1)).2
  rw [Nat.add_zero] at e
  rw [e]
  unfold Om
  rw [setRow_heap _ _ _ _ _ _ h]
  rfl
theorem Om.setKind (h : Om w ob lp cv o) (x : Nat) : Om (w.setCell ⟨ob, 1, none⟩ (.int .i64 (x : Nat))) ob lp cv { o with kind := x } := by
  unfold Om at *; rw [Go.Joins.block_setCell h]; rfl
theorem Om.setRef (h : Om w ob lp cv o) (x : Int) : Om (w.setCell ⟨ob, 19, none⟩ (.int .i64 x)) ob lp cv { o with r := x } := by
  unfold Om at *; rw [Go.Joins.block_setCell h]; rfl
theorem Om.setH (h : Om w ob lp cv o) (x : Nat) : Om (w.setCell ⟨ob, 20, none⟩ (.int .i64 (x : Nat))) ob lp cv { o with h := x } := by
  unfold Om at *; rw [Go.Joins.block_setCell h]; rfl
theorem Om.setSt (h : Om w ob lp cv o) (x : Nat) : Om (w.setCell ⟨ob, 21, none⟩ (.int .i64 (x : Nat))) ob lp cv { o with st := x } := by
  unfold Om at *; rw [Go.Joins.block_setCell h]; rfl
theorem Om.setLv (h : Om w ob lp cv o) (x : Nat) : Om (w.setCell ⟨ob, 22, none⟩ (.int .i64 (x : Nat))) ob lp cv { o with lv := x } := by
  unfold Om at *; rw [Go.Joins.block_setCell h]; rfl
theorem Om.setFull (h : Om w ob lp cv o) (x : Bool) : Om (w.setCell ⟨ob, 40, none⟩ (.bool x)) ob lp cv { o with full := x } := by
  unfold Om at *; rw [Go.Joins.block_setCell h]; rfl
theorem Om.setTw (h : Om w ob lp cv o) (x : Nat) : Om (w.setCell ⟨ob, 41, none⟩ (.int .i64 (x : Nat))) ob lp cv { o with tw := x } := by
  unfold Om at *; rw [Go.Joins.block_setCell h]; rfl
theorem Om.setNm (h : Om w ob lp cv o) (x : Int) : Om (w.setCell ⟨ob, 59, none⟩ (.int .i64 x)) ob lp cv { o with nm := x } := by
  unfold Om at *; rw [Go.Joins.block_setCell h]; rfl
theorem Om.setHad (h : Om w ob lp cv o) (x : Bool) : Om (w.setCell ⟨ob, 60, none⟩ (.bool x)) ob lp cv { o with had := x } := by
  unfold Om at *; rw [Go.Joins.block_setCell h]; rfl
theorem Om.setCode (h : Om w ob lp cv o) (x : Int) : Om (w.setCell ⟨ob, 61, none⟩ (.int .i64 x)) ob lp cv { o with code := x } := by
  unfold Om at *; rw [Go.Joins.block_setCell h]; rfl
theorem Om.setCv (h : Om w ob lp cv o) (v : Value) (l : List Nat) : Om (w.setCell ⟨ob, 39, none⟩ v) ob lp v { o with cs := l } := by
  unfold Om at *; rw [Go.Joins.block_setCell h]; rfl
end
end Go.Proofs.YtopihgdbfhiejaaDoor
