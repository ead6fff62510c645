/-
  The document's own disk: change.
-/
import Derived.Test.YthfcjfhaoabdeaaGreatDoorRz48
import Derived.Deep.RegionLaw
import Derived.Deep.AppendLies
import Derived.BigQuiet
import Derived.Maps.AppendAt
import Derived.Deep.DeepCutAuto
import Derived.Test.YthfcjfhaoabdeaaGreatDoorRz31
import Derived.Test.YthfcjfhaoabdeaaGreatDoorRz11
import Derived.Test.YthfcjfhaoabdeaaGreatDoorRz32
set_option linter.unusedVariables false
set_option linter.unusedSimpArgs false
namespace Go.Proofs.YthfcjfhaoabdeaaGreatDoor
open Go.RowKit Go.Maps

theorem cell_three_new (w : World) (x y z : Value) (t : TypeId) : ∀ j u, [x, y, z][j]? = some u → (w.alloc (.cells #[x, y, z] t)).cell? ((⟨w.heap.size, 0, none⟩ : Addr).add j) = some u := by
  intro j u h
  have hb : (w.alloc (.cells #[x, y, z] t)).heap[w.heap.size]? = some (.cells #[x, y, z] t (0, 0)) := heap_alloc_new w _
  rw [addr_add]
  rw [Go.Joins.cell_of_block hb]
  rw [← Array.getElem?_toList]
  simpa using h
end Go.Proofs.YthfcjfhaoabdeaaGreatDoor

/-
  The document's own disk: Names.
-/
set_option linter.unusedVariables false
set_option linter.unusedSimpArgs false
namespace Go.Proofs.YthfcjfhaoabdeaaGreatDoor
open Go.RowKit Go.Maps

def sc (l : List ByteArray) : List Value := l.map Value.string
end Go.Proofs.YthfcjfhaoabdeaaGreatDoor

/-
  Both disks beside one another: the program's, and the document's.
-/
set_option linter.unusedVariables false
set_option linter.unusedSimpArgs false
namespace Go.Proofs.YthfcjfhaoabdeaaGreatDoor
open Go.RowKit Go.Maps

section
variable {w w' : World} {E : Nat → Prop} {d r : Nat} {P Q : PD} {c c' : Int} {o o' : Bool}

/-- The program's operations, with power or without. -/
theorem prog_any {K : Nat → Prop} {ca : Int} {f : FuncId} {args : Array Value} {F : Int × PD} (h : Land.DR w K d P ca (decide (0 ≤ c)) o) (hca : 0 ≤ c → ca = c)
    (on : On P.n ca (decide (0 ≤ c)) o → ∀ L : Nat → Prop, Land.DR w L d P ca (decide (0 ≤ c)) o → (∀ j, j < w.heap.size → L j → K j) → (∀ j, w.heap.size ≤ j → L j) → Calls Tryz.prog f args w fun e w' => e = .returned (.int .i64 F.1) ∧ Land.DR w' L d F.2 ca (decide (0 ≤ c)) o ∧ Fr (Land.KD L d) w w')
    (off : Off P.n ca (decide (0 ≤ c)) o → ∀ now syn since, Dk w d now syn since P.n ca (decide (0 ≤ c)) o → Calls Tryz.prog f args w fun e w' => e = .returned (.int .i64 24) ∧ Dk w' d now syn since P.n ca (decide (0 ≤ c)) true ∧ Fr (fun j => j = d) w w') :
    Calls Tryz.prog f args w fun e w' => ∃ v, e = .returned v ∧ v = .int .i64 (if offed P.n c o = true then 24 else F.1) ∧ (∃ ca1, (0 ≤ c → ca1 = c) ∧ Land.DR w' (Land.more K w w') d (if offed P.n c o = true then P else F.2) ca1 (decide (0 ≤ c)) (offed P.n c o)) ∧ Fr (Land.KD K d) w w' := by
  cases ho : offed P.n c o with
  | false =>
    simp only [offed, Bool.or_eq_false_iff, Bool.and_eq_false_iff, decide_eq_false_iff_not] at ho
    obtain ⟨rfl, ho⟩ := ho
    have hon : On P.n ca (decide (0 ≤ c)) false := by
      refine ⟨rfl, ?_⟩
      by_cases h0 : 0 ≤ c
      · right
        rw [hca h0]
        omega
      · left
        simpa using h0
    refine (Land.grows (K := K) fun L hKL hLK hL => on hon L (h.mono fun j hj k => hKL j hj k) hLK hL).mono ?_
    rintro e w' ⟨rfl, hD, hF⟩
    exact ⟨_, rfl, rfl, ⟨ca, hca, hD⟩, hF⟩
  | true =>
    have hoff : Off P.n ca (decide (0 ≤ c)) o := by
      simp only [offed, Bool.or_eq_true, Bool.and_eq_true, decide_eq_true_eq] at ho
      rcases ho with ho | ⟨h0, h1⟩
      · exact .inl ho
      · exact .inr ⟨by simpa using h0, by rw [hca h0]; exact h1⟩
    refine (Land.dr_power h (c := ca) (k := decide (0 ≤ c)) (g := true) (off hoff)).mono ?_
    rintro e w' ⟨rfl, hD, hF⟩
    exact ⟨_, rfl, rfl, ⟨ca, hca, hD.mono fun j _ k => .inl k⟩, hF⟩
end
end Go.Proofs.YthfcjfhaoabdeaaGreatDoor

/-
  Both disks beside one another: each operation of each.
-/
set_option linter.unusedVariables false
set_option linter.unusedSimpArgs false
namespace Go.Proofs.YthfcjfhaoabdeaaGreatDoor
open Go.RowKit Go.Maps

/-- What a call answers, and leaves: with power, or without. -/
def ans (n : Int) (c : Int) (o : Bool) (F : Int × PD) : Int := if offed n c o = true then 24 else F.1
def lef (P : PD) (c : Int) (o : Bool) (F : Int × PD) : PD := if offed P.n c o = true then P else F.2
theorem lef_inv {P : PD} {c : Int} {o : Bool} {F : Int × PD} (hp : P.inv) (hF : F.2.inv) : (lef P c o F).inv := by
  unfold lef
  split
  · exact hp
  · exact hF

section
variable {w w' : World} {E : Nat → Prop} {d r : Nat} {P Q : PD} {c c' : Int} {o o' : Bool}

end
end Go.Proofs.YthfcjfhaoabdeaaGreatDoor

/-
  The log without memory: what is on the disk, what waits, what each call answers, and leaves. No program in sight.
-/
set_option linter.unusedVariables false
set_option linter.unusedSimpArgs false
namespace Go.Proofs.YthfcjfhaoabdeaaGreatDoor
open Go.RowKit Go.Maps

/-! ### A disk with its power -/
structure Dsk where
  P : PD
  c : Int
  o : Bool
def Dsk.go (S : Dsk) (F : Int × PD) : Int × Dsk := (ans S.P.n S.c S.o F, ⟨lef S.P S.c S.o F, S.c, offed S.P.n S.c S.o⟩)
def Dsk.app (S : Dsk) (s : ByteArray) (xs : List Int) : Int × Dsk := S.go (S.P.app s xs)
def Dsk.sync (S : Dsk) (s : ByteArray) : Int × Dsk := S.go (S.P.sync s)
def Dsk.syncDir (S : Dsk) : Int × Dsk := S.go S.P.syncDir

/-! ### Names of segments -/
def segOf (s : ByteArray) : Option Int := match Lib.atoi (trimB s).data.toList with
  | none => none
  | some n => if 1 ≤ n ∧ nm8 n = s then some n else none
/-- The segments that are there. -/
def segs (P : PD) : List Int := (Land.dnames P.now).filterMap segOf
def gap (P : PD) (first : Int) : Bool := (segs P).any fun n => decide (first < n) && decide (n ≤ 1073807360) && !(segs P).contains (n - 1)

/-! ### Reading -/

inductive Rds (P : PD) : Int → Rdr → Option (Int × Rdr) → Prop
  | stop {n : Int} {r : Rdr} : n ∉ segs P → Rds P n r (some (n, r))
  | bad {n : Int} {r : Rdr} : n ∈ segs P → SegR (Land.pread P (nm8 n)).2 n r none → Rds P n r none
  | go {n : Int} {r r' : Rdr} {x : Option (Int × Rdr)} : n ∈ segs P → SegR (Land.pread P (nm8 n)).2 n r (some r') → Rds P (n + 1) r' x → Rds P n r x

/-! ### The log -/
structure Lg where
  seg : Int
  seq : Nat
  wait : List (List Int)
  step : Nat
  grp : Nat
  done : Nat
  over : Int
def beg (S : Dsk) (n : Int) (seq : Nat) : Int × Dsk :=
  if (S.app (nm8 n) (fra seq (fstB n))).1 ≠ 0 then S.app (nm8 n) (fra seq (fstB n)) else
  if ((S.app (nm8 n) (fra seq (fstB n))).2.sync (nm8 n)).1 ≠ 0 then (S.app (nm8 n) (fra seq (fstB n))).2.sync (nm8 n) else
  ((S.app (nm8 n) (fra seq (fstB n))).2.sync (nm8 n)).2.syncDir
def Lg.new (n : Int) (seq : Nat) : Lg := ⟨n, (seq + 1) % 18446744073709551616, [], 0, 0, 0, 0⟩
inductive OpenR (S : Dsk) (first : Int) : Int → Option (Lg × List Cm) → Dsk → Prop
  | arg : (first < 1 ∨ 1073741824 < first) → OpenR S first 2 none S
  | off : 1 ≤ first → first ≤ 1073741824 → S.o = true → OpenR S first 24 none S
  | gap : 1 ≤ first → first ≤ 1073741824 → S.o = false → gap S.P first = true → OpenR S first 81 none S
  | bad : 1 ≤ first → first ≤ 1073741824 → S.o = false → gap S.P first = false → Rds S.P first ⟨false, 0, []⟩ none → OpenR S first 81 none S
  | err {n : Int} {r : Rdr} : 1 ≤ first → first ≤ 1073741824 → S.o = false → gap S.P first = false → Rds S.P first ⟨false, 0, []⟩ (some (n, r)) → (beg S n r.next).1 ≠ 0 → OpenR S first (beg S n r.next).1 none (beg S n r.next).2
  | ok {n : Int} {r : Rdr} : 1 ≤ first → first ≤ 1073741824 → S.o = false → gap S.P first = false → Rds S.P first ⟨false, 0, []⟩ (some (n, r)) → (beg S n r.next).1 = 0 → OpenR S first 0 (some (Lg.new n r.next, r.cs)) (beg S n r.next).2

/-- The least segment below a number; 0: none. -/
def least (P : PD) (below : Int) : Int := ((segs P).filter fun n => decide (n < below)).foldl (fun a n => if a = 0 ∨ n < a then n else a) 0
end Go.Proofs.YthfcjfhaoabdeaaGreatDoor

/-
  The program's disk by itself: which blocks are its own, and what each call answers, and leaves.
-/
set_option linter.unusedVariables false
set_option linter.unusedSimpArgs false
namespace Go.Proofs.YthfcjfhaoabdeaaGreatDoor
open Go.RowKit Go.Maps

/-- The disk at d has S; A: blocks that are the disk's. -/
structure DV (w : World) (A : Nat → Prop) (d : Nat) (S : Dsk) : Prop where
  it : ∃ K ca, Land.DR w K d S.P ca (decide (0 ≤ S.c)) S.o ∧ (0 ≤ S.c → ca = S.c) ∧ (∀ j, (K j ∨ j = d) → A j)
  lt : ∀ j, A j → j < w.heap.size
  inv : S.P.inv

theorem more_lt {A : Nat → Prop} {w w' : World} (hA : ∀ j, A j → j < w.heap.size) (hs : w.heap.size ≤ w'.heap.size) : ∀ j, Land.more A w w' j → j < w'.heap.size := by
  rintro j (h | h)
  · have := hA j h; omega
  · exact h.2
section
variable {w w' : World} {A : Nat → Prop} {d : Nat} {S S' : Dsk}

theorem DV.mono (h : DV w A d S) {B : Nat → Prop} (hAB : ∀ j, A j → B j) (hB : ∀ j, B j → j < w.heap.size) : DV w B d S := by
  obtain ⟨⟨K, ca, h1, h2, h3⟩, h4, h5⟩ := h
  exact ⟨⟨K, ca, h1, h2, fun j hj => hAB j (h3 j hj)⟩, hB, h5⟩
theorem DV.keep (h : DV w A d S) {F : Nat → Prop} (hF : Fr F w w') (hA : ∀ j, A j → ¬ F j) : DV w' A d S := by
  obtain ⟨⟨K, ca, h1, h2, h3⟩, h4, h5⟩ := h
  exact ⟨⟨K, ca, h1.keep ⟨fun j hj q => hF.block j hj (hA j (h3 j (q.elim .inr .inl)))⟩, h2, h3⟩, fun j hj => Nat.lt_of_lt_of_le (h4 j hj) hF.size, h5⟩
theorem DV.below (h : DV w A d S) (hb : Below w.heap.size w w') : DV w' A d S := h.keep (F := fun _ => False) (Fr.below hb) (fun _ _ e => e)
theorem DV.prog {f : FuncId} {args : Array Value} {v : Value} (h : DV w A d S) (hS : S'.P.inv)
    (hc : ∀ K ca, Land.DR w K d S.P ca (decide (0 ≤ S.c)) S.o → (0 ≤ S.c → ca = S.c) → (∀ j, (K j ∨ j = d) → A j) → Calls Tryz.prog f args w fun e w' => ∃ u, e = .returned u ∧ u = v ∧ (∃ ca1, (0 ≤ S'.c → ca1 = S'.c) ∧ Land.DR w' (Land.more K w w') d S'.P ca1 (decide (0 ≤ S'.c)) S'.o) ∧ Fr (Land.KD K d) w w') :
    Calls Tryz.prog f args w fun e w' => e = .returned v ∧ DV w' (Land.more A w w') d S' ∧ Fr A w w' := by
  obtain ⟨⟨K, ca, h1, h2, h3⟩, h4, h5⟩ := h
  refine (hc K ca h1 h2 h3).mono ?_
  rintro e w' ⟨u, rfl, rfl, ⟨ca1, hca, hD⟩, F⟩
  refine ⟨rfl, ⟨⟨_, ca1, hD, hca, fun j hj => ?_⟩, more_lt h4 F.size, hS⟩, F.mono fun j _ q => h3 j (q.elim .inr .inl)⟩
  rcases hj with (hj | hj) | hj
  · exact .inl (h3 j (.inl hj))
  · exact .inr hj
  · exact .inl (h3 j (.inr hj))

theorem dv_sync (h : DV w A d S) (s : ByteArray) (hs : s.size ≤ maxLen) :
    Calls Tryz.prog 179 #[.pointer (some ⟨d, 0, none⟩), .string s] w fun e w' => e = .returned (.int .i64 (S.sync s).1) ∧ DV w' (Land.more A w w') d (S.sync s).2 ∧ Fr A w w' :=
  h.prog (S' := (S.sync s).2) (v := .int .i64 (S.sync s).1) (lef_inv h.inv (inv_sync h.inv s)) fun K ca hD hca hE => prog_any hD hca (fun hon L hL _ hK => Land.dr_sync hL hon hK s hs) (fun hoff now syn since hk => sync_off hk hoff s)
theorem dv_syncDir (h : DV w A d S) :
    Calls Tryz.prog 139 #[.pointer (some ⟨d, 0, none⟩)] w fun e w' => e = .returned (.int .i64 S.syncDir.1) ∧ DV w' (Land.more A w w') d S.syncDir.2 ∧ Fr A w w' :=
  h.prog (S' := S.syncDir.2) (v := .int .i64 S.syncDir.1) (lef_inv h.inv (inv_syncDir h.inv)) fun K ca hD hca hE => prog_any hD hca (fun hon L hL _ hK => Land.dr_syncDir hL hon hK) (fun hoff now syn since hk => syncDir_off hk hoff)
theorem dv_append (h : DV w A d S) (s : ByteArray) (hs : s.size ≤ maxLen) (ao : Option Addr) (len cap : Nat) (xs : List Int) (hx : Sl w ao len cap xs) (hxa : 0 < len → ∀ b off, ao = some ⟨b, off, none⟩ → b < w.heap.size ∧ ¬ A b) :
    Calls Tryz.prog 177 #[.pointer (some ⟨d, 0, none⟩), .string s, .slice ao len cap] w fun e w' => e = .returned (.int .i64 (S.app s xs).1) ∧ DV w' (Land.more A w w') d (S.app s xs).2 ∧ Fr A w w' :=
  h.prog (S' := (S.app s xs).2) (v := .int .i64 (S.app s xs).1) (lef_inv h.inv (inv_app h.inv s hx.2.2.2.1)) fun K ca hD hca hE => prog_any hD hca (fun hon L hL hLK hK => Land.dr_append hL hon hK s hs ao len cap xs hx fun hl b off e => by
    have hb := hxa hl b off e
    exact ⟨fun k => hb.2 (hE b (.inl (hLK b hb.1 k))), fun k => hb.2 (hE b (.inr k))⟩) (fun hoff now syn since hk => append_off hk hoff s _)
theorem dv_read (h : DV w A d S) (s : ByteArray) (hs : s.size ≤ maxLen) :
    Calls Tryz.prog 67 #[.pointer (some ⟨d, 0, none⟩), .string s] w fun e w' => ∃ u, e = .returned (.tuple #[u, .int .i64 (if S.o then 24 else (Land.pread S.P s).1)]) ∧ Own w' w.heap.size u (if S.o then [] else (Land.pread S.P s).2) ∧ Below w.heap.size w w' := by
  obtain ⟨⟨K, ca, h1, h2, h3⟩, h4, h5⟩ := h
  exact Land.dr_read h1 h5 s hs
theorem dv_names (h : DV w A d S) : Calls Tryz.prog 49 #[.pointer (some ⟨d, 0, none⟩)] w fun e w' => ∃ ao len cap, e = .returned (.slice ao len cap) ∧ St w' ao len cap (Land.dnames S.P.now) ∧ Below w.heap.size w w' := by
  obtain ⟨⟨K, ca, h1, h2, h3⟩, h4, h5⟩ := h
  exact Land.dr_names h1 h5
theorem dv_new (w : World) : Calls Tryz.prog 10 #[] w fun e w' => ∃ d, e = .returned (.pointer (some ⟨d, 0, none⟩)) ∧ DV w' (fun j => w.heap.size ≤ j ∧ j < w'.heap.size) d ⟨PD.new, -1, false⟩ ∧ Below w.heap.size w w' := by
  refine (new_any w).mono ?_
  rintro e w' ⟨rfl, rfl⟩
  have hk : Dk (w.alloc (.cells #[.map none, .map none, .slice none 0 0, .int .i64 0, .bool false, .int .i64 0, .bool false] 77)) w.heap.size (.map none) (.map none) (.slice none 0 0) 0 0 false false := heap_alloc_new w _
  refine ⟨_, rfl, ⟨⟨fun _ => False, 0, Land.dr_new _ _ hk _, fun h => absurd h (show ¬ (0 : Int) ≤ -1 by decide), fun j hj => ?_⟩, fun j hj => hj.2, inv_new⟩, (Below.refl _ _).alloc (Nat.le_refl _) _⟩
  obtain rfl : j = w.heap.size := hj.elim (fun e => e.elim) id
  exact ⟨Nat.le_refl _, hk.lt⟩
end
end Go.Proofs.YthfcjfhaoabdeaaGreatDoor

/-
  The log in memory; write, sync, seal, begin. (Printed by gen_w4.py.)
-/
set_option linter.unusedVariables false
set_option linter.unusedSimpArgs false
namespace Go.Proofs.YthfcjfhaoabdeaaGreatDoor
open Go.RowKit Go.Maps

def lc (d : Nat) (v : Value) (L : Lg) : Array Value := #[.pointer (some ⟨d, 0, none⟩), .int .i64 L.seg, .int .u64 (L.seq : Int), v, .int .i64 (L.step : Int), .int .i64 (L.grp : Int), .int .i64 (L.done : Int), .int .i64 L.over]
/-- The log's eight cells. -/
def Lm (w : World) (l d : Nat) (v : Value) (L : Lg) : Prop := w.heap[l]? = some (.cells (lc d v L) 154 (0, 0))
section
variable {w w' : World} {l d : Nat} {v : Value} {L : Lg}
theorem Lm.lt (h : Lm w l d v L) : l < w.heap.size := (Array.getElem?_eq_some_iff.1 h).1
theorem Lm.cells (h : Lm w l d v L) : w.cell? ⟨l, 0, none⟩ = some (.pointer (some ⟨d, 0, none⟩)) ∧ w.cell? ⟨l, 1, none⟩ = some (.int .i64 L.seg) ∧ w.cell? ⟨l, 2, none⟩ = some (.int .u64 (L.seq : Int)) ∧ w.cell? ⟨l, 3, none⟩ = some v ∧
    w.cell? ⟨l, 4, none⟩ = some (.int .i64 (L.step : Int)) ∧ w.cell? ⟨l, 5, none⟩ = some (.int .i64 (L.grp : Int)) ∧ w.cell? ⟨l, 6, none⟩ = some (.int .i64 (L.done : Int)) ∧ w.cell? ⟨l, 7, none⟩ = some (.int .i64 L.over) := by
  refine ⟨?_, ?_, ?_, ?_, ?_, ?_, ?_, ?_⟩ <;> (rw [Go.Joins.cell_of_block h]; rfl)
theorem Lm.same (h : Lm w l d v L) (e : w'.heap[l]? = w.heap[l]?) : Lm w' l d v L := e.trans h
theorem Lm.below (h : Lm w l d v L) (hb : Below w.heap.size w w') : Lm w' l d v L := h.same (hb.block l h.lt)
theorem Lm.fr {F : Nat → Prop} (h : Lm w l d v L) (hF : Fr F w w') (hl : ¬ F l) : Lm w' l d v L := h.same (hF.block l h.lt hl)
theorem Lm.free (h : Lm w l d v L) (i : Nat) : w.frozen? ⟨l, i, none⟩ = false := Go.Joins.unfrozen_of_block h i
theorem Lm.three (h : Lm w l d v L) : w.cell? ⟨l, 0, none⟩ = some (.pointer (some ⟨d, 0, none⟩)) ∧ w.cell? ⟨l, 1, none⟩ = some (.int .i64 L.seg) ∧ w.cell? ⟨l, 2, none⟩ = some (.int .u64 (L.seq : Int)) := ⟨h.cells.1, h.cells.2.1, h.cells.2.2.1⟩
end
theorem below_drew (w : World) : Below w.heap.size w w.drew := ⟨rfl, rfl, rfl, Nat.le_refl _, fun _ _ => rfl⟩
theorem nm8_size (n : Int) (h0 : -9223372036854775808 ≤ n) (h1 : n ≤ 9223372036854775807) : (nm8 n).size ≤ 25 := by
  have := Lib.itoa_length_le n h0 h1
  show (nmL n).toArray.size ≤ 25
  simp [nmL]
  omega
theorem nm8_max (n : Int) (h0 : -9223372036854775808 ≤ n) (h1 : n ≤ 9223372036854775807) : (nm8 n).size ≤ maxLen := by
  have := nm8_size n h0 h1
  unfold maxLen
  omega

section
variable {w : World} {B : Nat} {D : Nat → Prop} {l d : Nat} {v : Value} {S : Dsk} {L : Lg}

set_option maxRecDepth 100000 in
set_option maxHeartbeats 4000000 in
theorem write_any (hD : DV w D d S) (hl : Lm w l d v L) (hn : ¬ D l) (hB : B ≤ w.heap.size) (hg : Gl B w) {ao : Option Addr} {len cap : Nat} {bs : List (List Int)} (hp : Pl w ao len cap bs) (ho : Okb bs) (hlen : len ≤ 1000000000) (h0 : -9223372036854775808 ≤ L.seg) (h1 : L.seg ≤ 9223372036854775807) (hs : L.seq < 18446744073709551616) :
    Calls Tryz.prog 137 #[.pointer (some ⟨l, 0, none⟩), .slice ao len cap] w fun e w' => e = .returned (.int .i64 (S.app (nm8 L.seg) (fras L.seq bs)).1) ∧ DV w' (Land.more D w w') d (S.app (nm8 L.seg) (fras L.seq bs)).2 ∧ Lm w' l d v { L with seq := (L.seq + len) % 18446744073709551616 } ∧ Fr (fun j => D j ∨ j = l) w w' := by
  have bd := below_drew w
  have HD := hid8 (hD.below bd)
  have HL := hid8 (hl.below bd)
  have HG := hid8 (hg.on (bd.mono hB))
  have HP := hid8 (hp.below bd)
  have HO := hid8 ho
  have hll := hl.lt
  have hlt := hD.lt
  have hu : IntKind.u64.wrap ((L.seq : Int) + IntKind.u64.wrap (len : Int)) = (((L.seq + len) % 18446744073709551616 : Nat) : Int) := by
    rw [IntKind.wrap_u64, IntKind.wrap_u64]; omega
  have hu2 : IntKind.u64.wrap ((L.seq : Int) + (len : Int)) = (((L.seq + len) % 18446744073709551616 : Nat) : Int) := by
    rw [IntKind.wrap_u64]; omega
  have hu3 : IntKind.u64.wrap (len : Int) = (len : Int) := by
    rw [IntKind.wrap_u64]; omega
  obtain ⟨s1, s2, s3⟩ := hl.three
  have HNM := hid8 (nm8_max L.seg h0 h1)
  have HN := hid8 hn
  have HLT := hid8 hlt
  clear hD hl hg hp ho hn bd hlt
  go_enter Tryz.func137, Tryz.ntmps137
  go_wp2
  refine wp_region_noPanic ?_
  refine wp_region_held_drew (S := (fun u : World => u.cell? ⟨l, 0, none⟩ = some (.pointer (some ⟨d, 0, none⟩)) ∧ u.cell? ⟨l, 1, none⟩ = some (.int .i64 L.seg) ∧ u.cell? ⟨l, 2, none⟩ = some (.int .u64 (L.seq : Int)))) (by kernel_rfl) (⟨s1, s2, s3⟩) (fun hHeld => ?_)
  refine wpAnyH_take (i := 0) (oi := { dst := some 6, op := _, type := _, pos := _, after := _, guard := _ }) (v := ?_) rfl (by kernel_rfl) (by kernel_rfl) (by kernel_rfl) (fun _ _ _ h => h) (Or.inl ⟨by rfl, ?_⟩) (by assumption) ?_
  rotate_left 1
  · intro u hSw; obtain ⟨s1, s2, s3⟩ := hSw; go_simp; try with_reducible rfl
  try simp only [Act.put, List.setIfInBounds_toArray, List.set_cons_zero, List.set_cons_succ]
  refine wpAnyH_take (i := 1) (oi := { dst := some 7, op := _, type := _, pos := _, after := _, guard := _ }) (v := ?_) rfl (by kernel_rfl) (by kernel_rfl) (by kernel_rfl) (fun _ _ _ h => h) (Or.inl ⟨by rfl, ?_⟩) (by assumption) ?_
  rotate_left 1
  · intro u hSw; obtain ⟨s1, s2, s3⟩ := hSw; go_simp; try with_reducible rfl
  try simp only [Act.put, List.setIfInBounds_toArray, List.set_cons_zero, List.set_cons_succ]
  refine wpAnyH_take (i := 2) (oi := { dst := some 8, op := _, type := _, pos := _, after := _, guard := _ }) (v := ?_) rfl (by kernel_rfl) (by kernel_rfl) (by kernel_rfl) (fun _ _ _ h => h) (Or.inl ⟨by rfl, ?_⟩) (by assumption) ?_
  rotate_left 1
  · intro u hSw; obtain ⟨s1, s2, s3⟩ := hSw; go_simp; try with_reducible rfl
  try simp only [Act.put, List.setIfInBounds_toArray, List.set_cons_zero, List.set_cons_succ]
  refine wpAnyH_take (i := 3) (oi := { dst := some 9, op := _, type := _, pos := _, after := _, guard := _ }) (v := ?_) rfl (by kernel_rfl) (by kernel_rfl) (by kernel_rfl) (fun _ _ _ h => h) (Or.inl ⟨by rfl, ?_⟩) (by assumption) ?_
  rotate_left 1
  · intro u hSw; obtain ⟨s1, s2, s3⟩ := hSw; go_simp; try with_reducible rfl
  try simp only [Act.put, List.setIfInBounds_toArray, List.set_cons_zero, List.set_cons_succ]
  refine wpAnyH_take (i := 4) (oi := { dst := some 10, op := _, type := _, pos := _, after := _, guard := _ }) (v := ?_) rfl (by kernel_rfl) (by kernel_rfl) (by kernel_rfl) (fun _ _ _ h => h) (Or.inl ⟨by rfl, ?_⟩) (by assumption) ?_
  rotate_left 1
  · intro u hSw; obtain ⟨s1, s2, s3⟩ := hSw; go_simp; try with_reducible rfl
  try simp only [Act.put, List.setIfInBounds_toArray, List.set_cons_zero, List.set_cons_succ]
  refine wpAnyH_take (i := 5) (oi := { dst := some 11, op := _, type := _, pos := _, after := _, guard := _ }) (v := ?_) rfl (by kernel_rfl) (by kernel_rfl) (by kernel_rfl) (fun _ _ _ h => h) (Or.inl ⟨by rfl, ?_⟩) (by assumption) ?_
  rotate_left 1
  · intro u hSw; obtain ⟨s1, s2, s3⟩ := hSw; go_simp; try with_reducible rfl
  try simp only [Act.put, List.setIfInBounds_toArray, List.set_cons_zero, List.set_cons_succ]
  refine wpAnyH_take (i := 6) (oi := { dst := some 12, op := _, type := _, pos := _, after := _, guard := _ }) (v := ?_) rfl (by kernel_rfl) (by kernel_rfl) (by kernel_rfl) (fun _ _ _ h => h) (Or.inl ⟨by rfl, ?_⟩) (by assumption) ?_
  rotate_left 1
  · intro u hSw; obtain ⟨s1, s2, s3⟩ := hSw; go_simp; try with_reducible rfl
  try simp only [Act.put, List.setIfInBounds_toArray, List.set_cons_zero, List.set_cons_succ]
  refine wpAnyH_take (i := 7) (oi := { dst := some 13, op := _, type := _, pos := _, after := _, guard := _ }) (v := ?_) rfl (by kernel_rfl) (by kernel_rfl) (by kernel_rfl) (fun _ _ _ h => h) (Or.inl ⟨by rfl, ?_⟩) (by assumption) ?_
  rotate_left 1
  · intro u hSw; obtain ⟨s1, s2, s3⟩ := hSw; go_simp; try with_reducible rfl
  try simp only [Act.put, List.setIfInBounds_toArray, List.set_cons_zero, List.set_cons_succ]
  refine wpAnyH_take (i := 9) (oi := { dst := some 15, op := _, type := _, pos := _, after := _, guard := _ }) (v := ?_) rfl (by kernel_rfl) (by kernel_rfl) (by kernel_rfl) (fun _ _ _ h => h) (Or.inl ⟨by rfl, ?_⟩) (by assumption) ?_
  rotate_left 1
  · intro u hSw; obtain ⟨s1, s2, s3⟩ := hSw; go_simp; try with_reducible rfl
  try simp only [Act.put, List.setIfInBounds_toArray, List.set_cons_zero, List.set_cons_succ]
  refine wpAnyH_take (i := 10) (oi := { dst := some 16, op := _, type := _, pos := _, after := _, guard := _ }) (v := ?_) rfl (by kernel_rfl) (by kernel_rfl) (by kernel_rfl) (fun _ _ _ h => h) (Or.inl ⟨by rfl, ?_⟩) (by assumption) ?_
  rotate_left 1
  · intro u hSw; obtain ⟨s1, s2, s3⟩ := hSw; go_simp; try with_reducible rfl
  try simp only [Act.put, List.setIfInBounds_toArray, List.set_cons_zero, List.set_cons_succ]
  refine wpAnyH_take (i := 11) (oi := { dst := some 17, op := _, type := _, pos := _, after := _, guard := _ }) (v := ?_) rfl (by kernel_rfl) (by kernel_rfl) (by kernel_rfl) (fun _ _ _ h => h) (Or.inl ⟨by rfl, ?_⟩) (by assumption) ?_
  rotate_left 1
  · intro u hSw; obtain ⟨s1, s2, s3⟩ := hSw; go_simp; try with_reducible rfl
  try simp only [Act.put, List.setIfInBounds_toArray, List.set_cons_zero, List.set_cons_succ]
  refine wpAnyH_take (i := 12) (oi := { dst := some 18, op := _, type := _, pos := _, after := _, guard := _ }) (v := ?_) rfl (by kernel_rfl) (by kernel_rfl) (by kernel_rfl) (fun _ _ _ h => h) (Or.inl ⟨by rfl, ?_⟩) (by assumption) ?_
  rotate_left 1
  · intro u hSw; obtain ⟨s1, s2, s3⟩ := hSw; go_simp; try with_reducible rfl
  try simp only [Act.put, List.setIfInBounds_toArray, List.set_cons_zero, List.set_cons_succ]
  refine wpAnyH_take (i := 13) (oi := { dst := some 19, op := _, type := _, pos := _, after := _, guard := _ }) (v := ?_) rfl (by kernel_rfl) (by kernel_rfl) (by kernel_rfl) (fun _ _ _ h => h) (Or.inl ⟨by rfl, ?_⟩) (by assumption) ?_
  rotate_left 1
  · intro u hSw; obtain ⟨s1, s2, s3⟩ := hSw; go_simp; try with_reducible rfl
  try simp only [Act.put, List.setIfInBounds_toArray, List.set_cons_zero, List.set_cons_succ]
  refine wpAnyH_ready (rs := [8]) (by kernel_rfl) (by simp) ?_
  refine AllReadyH.cons (o := { dst := some 14, op := _, type := _, pos := _, after := _, guard := _ }) rfl (fun K hK => ?_) AllReadyH.nil
  go_simp
  refine (name_any HG.out L.seg h0 h1).mono ?_
  rintro e w1 ⟨rfl, hb1⟩
  have hz1 : w.heap.size ≤ w1.heap.size := hb1.size
  have HB1 := hid8 hb1
  clear hb1
  go_wp2_with fail
  refine hK.out _ _ ((HL.out.below HB1.out).three) (fun hHeld => ?_)
  clear hK K
  try simp only [Act.put, List.setIfInBounds_toArray, List.set_cons_zero, List.set_cons_succ]
  refine wpAnyH_ready (rs := [14]) (by kernel_rfl) (by simp) ?_
  refine AllReadyH.cons (o := { dst := some 20, op := _, type := _, pos := _, after := _, guard := _ }) rfl (fun K hK => ?_) AllReadyH.nil
  go_simp
  refine (framed_any (HP.out.below HB1.out) HO.out hlen L.seq hs).mono ?_
  rintro e w2 ⟨v2, rfl, ho2, hb2⟩
  have hz2 : w1.heap.size ≤ w2.heap.size := hb2.size
  obtain ⟨a2, c2, rfl, sl2, lo2⟩ := ho2.sl (fras_byt L.seq bs HO.out)
  have hin2 : ∀ b off, a2 = some ⟨b, off, none⟩ → w1.heap.size ≤ b ∧ b < w2.heap.size := fun b off e => ⟨lo2 b off e, (World.ownsRow.lt ho2 b (by rw [e]; rfl)).2⟩
  have HB2 := hid8 (HB1.out.trans (hb2.mono HB1.out.size))
  have HS2 := hid8 sl2
  have HI2 := hid8 hin2
  generalize (fras L.seq bs).length = n2 at HS2 ⊢
  clear hb2 ho2 sl2 lo2 hin2
  go_wp2_with fail
  refine hK.out _ _ ((HL.out.below HB2.out).three) (fun hHeld => ?_)
  clear hK K
  try simp only [Act.put, List.setIfInBounds_toArray, List.set_cons_zero, List.set_cons_succ]
  refine wpAnyH_ready (rs := [15]) (by kernel_rfl) (by simp) ?_
  refine AllReadyH.cons (o := { dst := some 21, op := _, type := _, pos := _, after := _, guard := _ }) rfl (fun K hK => ?_) AllReadyH.nil
  go_simp
  refine (dv_append (HD.out.below HB2.out) (nm8 L.seg) HNM.out a2 n2 c2 (fras L.seq bs) HS2.out (fun _ b off e => ⟨(HI2.out b off e).2, fun k => by have := HLT.out b k; have := (HI2.out b off e).1; omega⟩)).mono ?_
  rintro e w3 ⟨rfl, hd3, hf3⟩
  have HD3 := hid8 hd3
  have HF3 := hid8 hf3
  have HL3 := hid8 ((HL.out.below HB2.out).fr hf3 HN.out)
  have hz3 : w2.heap.size ≤ w3.heap.size := hf3.size
  clear hd3 hf3
  go_wp2_with fail
  refine hK.out _ _ (HL3.out.three) (fun hHeld => ?_)
  clear hK K
  try simp only [Act.put, List.setIfInBounds_toArray, List.set_cons_zero, List.set_cons_succ]
  refine wpAnyH_take (i := 16) (oi := { dst := some 5, op := _, type := _, pos := _, after := _, guard := _ }) (v := ?_) rfl (by kernel_rfl) (by kernel_rfl) (by kernel_rfl) (fun _ _ _ h => h) (Or.inl ⟨by rfl, ?_⟩) (by assumption) ?_
  rotate_left 1
  · intro u hSw; obtain ⟨s1, s2, s3⟩ := hSw; go_simp; try with_reducible rfl
  try simp only [Act.put, List.setIfInBounds_toArray, List.set_cons_zero, List.set_cons_succ]
  refine wpAnyH_done (by kernel_rfl) ?_ _
  refine NoPanic.normal ?_
  obtain ⟨s1, s2, s3⟩ := HL3.out.three
  have f2 := HL3.out.free 2
  have hl3 : l < w3.heap.size := HL3.out.lt
  go_wp2
  go_ret
  refine ⟨rfl, ?_, ?_, ?_⟩
  · refine ((HD3.out.keep (F := fun j => j = l) (Fr.setCell (F := fun j => j = l) (p := ⟨l, 2, none⟩) (Fr.refl _ w3) (.inl rfl) _) fun j hj e => ?_).mono (B := Land.more D w _) (fun j hj => ?_) fun j hj => ?_)
    · subst e
      rcases hj with hj | hj
      · exact HN.out hj
      · have := hj.1; omega
    · rcases hj with hj | hj
      · exact .inl hj
      · exact .inr ⟨by have := hj.1; omega, by simpa [World.setCell] using hj.2⟩
    · rcases hj with hj | hj
      · have := HLT.out j hj
        simp [World.setCell]
        omega
      · exact hj.2
  · exact (Go.Joins.block_setCell HL3.out _).trans rfl
  · have F1 : Fr (fun j => D j ∨ j = l) w w3 := (((Fr.refl _ w).drewN 1).trans (Fr.below HB2.out) (fun j e => .inl e)).trans HF3.out (fun j e => .inl (.inl e))
    exact F1.setCell (p := ⟨l, 2, none⟩) (.inl (.inr rfl)) _

set_option maxRecDepth 100000 in
set_option maxHeartbeats 4000000 in
theorem sync_any (hD : DV w D d S) (hl : Lm w l d v L) (hn : ¬ D l) (hB : B ≤ w.heap.size) (hg : Gl B w) (h0 : -9223372036854775808 ≤ L.seg) (h1 : L.seg ≤ 9223372036854775807) :
    Calls Tryz.prog 138 #[.pointer (some ⟨l, 0, none⟩)] w fun e w' => e = .returned (.int .i64 (S.sync (nm8 L.seg)).1) ∧ DV w' (Land.more D w w') d (S.sync (nm8 L.seg)).2 ∧ Lm w' l d v L ∧ Fr (fun j => D j ∨ j = l) w w' := by
  have bd := below_drew w
  have HD := hid8 (hD.below bd)
  have HL := hid8 (hl.below bd)
  have HG := hid8 (hg.on (bd.mono hB))
  have hll := hl.lt
  have HLT := hid8 hD.lt
  obtain ⟨s1, s2, s3⟩ := hl.three
  have HNM := hid8 (nm8_max L.seg h0 h1)
  have HN := hid8 hn
  clear hD hl hg hn bd
  go_enter Tryz.func138, Tryz.ntmps138
  go_wp2
  refine wp_region_noPanic ?_
  refine wp_region_held_drew (S := (fun u : World => u.cell? ⟨l, 0, none⟩ = some (.pointer (some ⟨d, 0, none⟩)) ∧ u.cell? ⟨l, 1, none⟩ = some (.int .i64 L.seg) ∧ u.cell? ⟨l, 2, none⟩ = some (.int .u64 (L.seq : Int)))) (by kernel_rfl) (⟨s1, s2, s3⟩) (fun hHeld => ?_)
  refine wpAnyH_take (i := 0) (oi := { dst := some 3, op := _, type := _, pos := _, after := _, guard := _ }) (v := ?_) rfl (by kernel_rfl) (by kernel_rfl) (by kernel_rfl) (fun _ _ _ h => h) (Or.inl ⟨by rfl, ?_⟩) (by assumption) ?_
  rotate_left 1
  · intro u hSw; obtain ⟨s1, s2, s3⟩ := hSw; go_simp; try with_reducible rfl
  try simp only [Act.put, List.setIfInBounds_toArray, List.set_cons_zero, List.set_cons_succ]
  refine wpAnyH_take (i := 1) (oi := { dst := some 4, op := _, type := _, pos := _, after := _, guard := _ }) (v := ?_) rfl (by kernel_rfl) (by kernel_rfl) (by kernel_rfl) (fun _ _ _ h => h) (Or.inl ⟨by rfl, ?_⟩) (by assumption) ?_
  rotate_left 1
  · intro u hSw; obtain ⟨s1, s2, s3⟩ := hSw; go_simp; try with_reducible rfl
  try simp only [Act.put, List.setIfInBounds_toArray, List.set_cons_zero, List.set_cons_succ]
  refine wpAnyH_take (i := 2) (oi := { dst := some 5, op := _, type := _, pos := _, after := _, guard := _ }) (v := ?_) rfl (by kernel_rfl) (by kernel_rfl) (by kernel_rfl) (fun _ _ _ h => h) (Or.inl ⟨by rfl, ?_⟩) (by assumption) ?_
  rotate_left 1
  · intro u hSw; obtain ⟨s1, s2, s3⟩ := hSw; go_simp; try with_reducible rfl
  try simp only [Act.put, List.setIfInBounds_toArray, List.set_cons_zero, List.set_cons_succ]
  refine wpAnyH_take (i := 3) (oi := { dst := some 6, op := _, type := _, pos := _, after := _, guard := _ }) (v := ?_) rfl (by kernel_rfl) (by kernel_rfl) (by kernel_rfl) (fun _ _ _ h => h) (Or.inl ⟨by rfl, ?_⟩) (by assumption) ?_
  rotate_left 1
  · intro u hSw; obtain ⟨s1, s2, s3⟩ := hSw; go_simp; try with_reducible rfl
  try simp only [Act.put, List.setIfInBounds_toArray, List.set_cons_zero, List.set_cons_succ]
  refine wpAnyH_take (i := 4) (oi := { dst := some 7, op := _, type := _, pos := _, after := _, guard := _ }) (v := ?_) rfl (by kernel_rfl) (by kernel_rfl) (by kernel_rfl) (fun _ _ _ h => h) (Or.inl ⟨by rfl, ?_⟩) (by assumption) ?_
  rotate_left 1
  · intro u hSw; obtain ⟨s1, s2, s3⟩ := hSw; go_simp; try with_reducible rfl
  try simp only [Act.put, List.setIfInBounds_toArray, List.set_cons_zero, List.set_cons_succ]
  refine wpAnyH_take (i := 5) (oi := { dst := some 8, op := _, type := _, pos := _, after := _, guard := _ }) (v := ?_) rfl (by kernel_rfl) (by kernel_rfl) (by kernel_rfl) (fun _ _ _ h => h) (Or.inl ⟨by rfl, ?_⟩) (by assumption) ?_
  rotate_left 1
  · intro u hSw; obtain ⟨s1, s2, s3⟩ := hSw; go_simp; try with_reducible rfl
  try simp only [Act.put, List.setIfInBounds_toArray, List.set_cons_zero, List.set_cons_succ]
  refine wpAnyH_take (i := 6) (oi := { dst := some 9, op := _, type := _, pos := _, after := _, guard := _ }) (v := ?_) rfl (by kernel_rfl) (by kernel_rfl) (by kernel_rfl) (fun _ _ _ h => h) (Or.inl ⟨by rfl, ?_⟩) (by assumption) ?_
  rotate_left 1
  · intro u hSw; obtain ⟨s1, s2, s3⟩ := hSw; go_simp; try with_reducible rfl
  try simp only [Act.put, List.setIfInBounds_toArray, List.set_cons_zero, List.set_cons_succ]
  refine wpAnyH_take (i := 7) (oi := { dst := some 10, op := _, type := _, pos := _, after := _, guard := _ }) (v := ?_) rfl (by kernel_rfl) (by kernel_rfl) (by kernel_rfl) (fun _ _ _ h => h) (Or.inl ⟨by rfl, ?_⟩) (by assumption) ?_
  rotate_left 1
  · intro u hSw; obtain ⟨s1, s2, s3⟩ := hSw; go_simp; try with_reducible rfl
  try simp only [Act.put, List.setIfInBounds_toArray, List.set_cons_zero, List.set_cons_succ]
  refine wpAnyH_ready (rs := [8]) (by kernel_rfl) (by simp) ?_
  refine AllReadyH.cons (o := { dst := some 11, op := _, type := _, pos := _, after := _, guard := _ }) rfl (fun K hK => ?_) AllReadyH.nil
  go_simp
  refine (name_any HG.out L.seg h0 h1).mono ?_
  rintro e w1 ⟨rfl, hb1⟩
  have hz1 : w.heap.size ≤ w1.heap.size := hb1.size
  have HB1 := hid8 hb1
  clear hb1
  go_wp2_with fail
  refine hK.out _ _ ((HL.out.below HB1.out).three) (fun hHeld => ?_)
  clear hK K
  try simp only [Act.put, List.setIfInBounds_toArray, List.set_cons_zero, List.set_cons_succ]
  refine wpAnyH_ready (rs := [9]) (by kernel_rfl) (by simp) ?_
  refine AllReadyH.cons (o := { dst := some 12, op := _, type := _, pos := _, after := _, guard := _ }) rfl (fun K hK => ?_) AllReadyH.nil
  go_simp
  refine (dv_sync (HD.out.below HB1.out) (nm8 L.seg) HNM.out).mono ?_
  rintro e w3 ⟨rfl, hd3, hf3⟩
  have HD3 := hid8 hd3
  have HF3 := hid8 hf3
  have HL3 := hid8 ((HL.out.below HB1.out).fr hf3 HN.out)
  have hz3 : w1.heap.size ≤ w3.heap.size := hf3.size
  clear hd3 hf3
  go_wp2_with fail
  refine hK.out _ _ (HL3.out.three) (fun hHeld => ?_)
  clear hK K
  try simp only [Act.put, List.setIfInBounds_toArray, List.set_cons_zero, List.set_cons_succ]
  refine wpAnyH_take (i := 10) (oi := { dst := some 2, op := _, type := _, pos := _, after := _, guard := _ }) (v := ?_) rfl (by kernel_rfl) (by kernel_rfl) (by kernel_rfl) (fun _ _ _ h => h) (Or.inl ⟨by rfl, ?_⟩) (by assumption) ?_
  rotate_left 1
  · intro u hSw; obtain ⟨s1, s2, s3⟩ := hSw; go_simp; try with_reducible rfl
  try simp only [Act.put, List.setIfInBounds_toArray, List.set_cons_zero, List.set_cons_succ]
  refine wpAnyH_done (by kernel_rfl) ?_ _
  refine NoPanic.normal ?_
  go_wp2
  go_ret
  refine ⟨rfl, HD3.out.mono (fun j hj => ?_) (more_lt HLT.out (by omega)), HL3.out, (((Fr.refl _ w).drewN 1).trans (Fr.below HB1.out) (fun j e => .inl e)).trans HF3.out (fun j e => .inl (.inl e))⟩
  rcases hj with hj | hj
  · exact .inl hj
  · exact .inr ⟨by have := hj.1; omega, hj.2⟩
end
end Go.Proofs.YthfcjfhaoabdeaaGreatDoor

/-
  seal and begin.
-/
set_option linter.unusedVariables false
set_option linter.unusedSimpArgs false
namespace Go.Proofs.YthfcjfhaoabdeaaGreatDoor
open Go.RowKit Go.Maps

theorem more_up {D : Nat → Prop} {w w1 w2 : World} (h : w.heap.size ≤ w1.heap.size) {j : Nat} (hj : Land.more D w1 w2 j) : Land.more D w w2 j := by
  rcases hj with hj | hj
  · exact .inl hj
  · exact .inr ⟨by have := hj.1; omega, hj.2⟩
theorem more_trans {D : Nat → Prop} {w w1 w2 : World} (h1 : w.heap.size ≤ w1.heap.size) (h2 : w1.heap.size ≤ w2.heap.size) {j : Nat} (hj : Land.more (Land.more D w w1) w1 w2 j) : Land.more D w w2 j := by
  rcases hj with (hj | hj) | hj
  · exact .inl hj
  · exact .inr ⟨hj.1, by have := hj.2; omega⟩
  · exact .inr ⟨by have := hj.1; omega, hj.2⟩
theorem fras_one (f : Nat) (b : List Int) : fras f [b] = fra f b := by simp [fras]
theorem pl_one {w : World} {g : Nat} {a : Option Addr} {n c : Nat} {xs : List Int} (hs : Sl w a n c xs) : Pl (w.alloc (.cells #[.slice a n c] 82)) (some ⟨w.heap.size, 0, none⟩) 1 1 [xs] := by
  refine ⟨rfl, Nat.le_refl _, by unfold maxLen; omega, fun _ => ⟨_, _, rfl, by simp, fun i hi => ?_⟩⟩
  obtain rfl : i = 0 := by omega
  exact ⟨a, n, c, by rw [Go.Joins.cell_of_block (heap_alloc_new w _)]; rfl, hs.below ((Below.refl _ _).alloc (Nat.le_refl _) _)⟩

section
variable {w : World} {B : Nat} {D : Nat → Prop} {l d : Nat} {v : Value} {S : Dsk} {L : Lg}

set_option maxRecDepth 100000 in
set_option maxHeartbeats 4000000 in
theorem begin_any (hD : DV w D d S) (hl : Lm w l d v L) (hn : ¬ D l) (hB : B ≤ w.heap.size) (hBl : B ≤ l) (hDB : ∀ j, D j → B ≤ j) (hg : Gl B w) (n : Int) (h0 : 0 ≤ n) (h1 : n ≤ 9223372036854775807) (hs : L.seq < 18446744073709551616) :
    Calls Tryz.prog 78 #[.pointer (some ⟨l, 0, none⟩), .int .i64 n] w fun e w' => e = .returned (.int .i64 (beg S n L.seq).1) ∧ DV w' (Land.more D w w') d (beg S n L.seq).2 ∧ Lm w' l d v { L with seg := n, seq := (L.seq + 1) % 18446744073709551616 } ∧ Fr (fun j => D j ∨ j = l) w w' := by
  have hlt := hD.lt
  obtain ⟨s1, s2, s3, -⟩ := hl.cells
  have f1 := hl.free 1
  have hll := hl.lt
  have F1 : Fr (fun j => j = l) w (w.setCell ⟨l, 1, none⟩ (.int .i64 n)) := Fr.setCell (F := fun j => j = l) (p := ⟨l, 1, none⟩) (Fr.refl _ w) (.inl rfl) _
  have L1 : Lm (w.setCell ⟨l, 1, none⟩ (.int .i64 n)) l d v { L with seg := n } := (Go.Joins.block_setCell hl _).trans rfl
  have D1 : DV (w.setCell ⟨l, 1, none⟩ (.int .i64 n)) D d S := hD.keep F1 (fun j hj e => hn (by rw [← e]; exact hj))
  have z1 : (w.setCell ⟨l, 1, none⟩ (.int .i64 n)).heap.size = w.heap.size := by simp [World.setCell]
  have G1 : Gl B (w.setCell ⟨l, 1, none⟩ (.int .i64 n)) := hg.on (F1.to (fun k hk e => by omega) hB)
  have HBD := hid8 hDB
  have HN := hid8 hn
  have HLT := hid8 hlt
  clear hD hl hn hg hlt hDB
  generalize hR : beg S n L.seq = R
  have HR := hid8 hR
  clear hR
  go_enter Tryz.func78, Tryz.ntmps78
  go_wp2_with fail
  generalize hW1 : w.setCell ⟨l, 1, none⟩ (.int .i64 n) = w1 at *
  clear hW1
  refine (firstBody_any n h0 h1 w1).mono ?_
  rintro e w2 ⟨v2, rfl, ho2, hb2⟩
  obtain ⟨a2, c2, rfl, sl2, lo2⟩ := ho2.sl (fstB_byt n h0)
  have hz2 := hb2.size
  have hfl := fstB_len n
  have b3 : Below w2.heap.size w2 (w2.alloc (.cells #[.slice a2 (fstB n).length c2] 82)) := (Below.refl _ _).alloc (Nat.le_refl _) _
  have b13 := hb2.trans (b3.mono hz2)
  have z3 : (w2.alloc (.cells #[.slice a2 (fstB n).length c2] 82)).heap.size = w2.heap.size + 1 := by simp
  have pl3 := pl_one (g := 0) sl2
  have HW := hid8 (write_any (D1.below b13) (L1.below b13) HN.out (by omega) (G1.on (b13.mono (by omega))) pl3 (fun b hb => by simp at hb; subst hb; exact ⟨by omega, fstB_byt n h0⟩) (by omega) (by show (-9223372036854775808 : Int) ≤ n; omega) (by show n ≤ (9223372036854775807 : Int); omega) hs)
  rw [fras_one] at HW
  have F3 : Fr (fun j => D j ∨ j = l) w (w2.alloc (.cells #[.slice a2 (fstB n).length c2] 82)) := (F1.mono (fun j _ e => .inr e)).trans (Fr.below b13) (fun j e => .inl e)
  have HF3 := hid8 F3
  have HG1 := hid8 (G1.on (b13.mono (by omega)))
  clear D1 L1 G1 F1 F3 b3 b13 pl3 sl2 lo2 ho2 hb2
  go_wp2_with fail
  generalize hW3 : w2.alloc (.cells #[.slice a2 (fstB n).length c2] 82) = w3 at *
  refine HW.out.mono ?_
  rintro e w4 ⟨rfl, hd4, hl4, hf4⟩
  have hz4 := hf4.size
  have HF4 := hid8 (HF3.out.trans hf4 (fun j e => .inl e))
  have g4 : Gl B w4 := HG1.out.on (hf4.to (fun k hk e => by rcases e with e | e; have := HBD.out k e; omega; omega) (by omega))
  clear HW HF3 HG1 hf4 hW3
  generalize hR1 : S.app (nm8 n) (fra L.seq (fstB n)) = R1 at *
  have HR1 := hid8 hR1
  clear hR1
  obtain ⟨x1, S1⟩ := R1
  by_cases e1 : x1 = 0
  · subst e1
    have HS := hid8 (sync_any hd4 hl4 (fun e => by rcases e with e | e; exact HN.out e; omega) (by omega) g4 (by show (-9223372036854775808 : Int) ≤ n; omega) (by show n ≤ (9223372036854775807 : Int); omega))
    have hlt4 := hd4.lt
    clear hd4 hl4
    go_wp2_with fail
    refine HS.out.mono ?_
    rintro e w5 ⟨rfl, hd5, hl5, hf5⟩
    have hz5 := hf5.size
    have HF5 := hid8 (HF4.out.trans hf5 (fun j e => by
      rcases e with (e | e) | e
      · exact .inl (.inl e)
      · exact .inr (by have := e.1; omega)
      · exact .inl (.inr e)))
    clear HS HF4 hf5
    simp only at hd5 hl5 ⊢
    generalize hR2 : S1.sync (nm8 n) = R2 at *
    have HR2 := hid8 hR2
    clear hR2
    obtain ⟨x2, S2⟩ := R2
    by_cases e2 : x2 = 0
    · subst e2
      have eR : Hid (R = S2.syncDir) := hid8 (by rw [← HR.out]; unfold beg; rw [HR1.out]; simp only []; rw [HR2.out]; simp)
      obtain ⟨s1, -⟩ := hl5.cells
      have HY := hid8 (dv_syncDir hd5)
      have HL5 := hid8 hl5
      clear hd5 hl5
      go_wp2_with fail
      refine HY.out.mono ?_
      rintro e w6 ⟨rfl, hd6, hf6⟩
      have hz6 := hf6.size
      have HD6 := hid8 hd6
      have hnl : ¬ Land.more (Land.more D w3 w4) w4 w5 l := by
        rintro ((e | e) | e)
        · exact HN.out e
        · have := e.1; omega
        · have := e.1; omega
      have HL6 := hid8 (HL5.out.fr hf6 hnl)
      have HF6 := hid8 (HF5.out.trans hf6 (fun j e => by
        rcases e with (e | e) | e
        · exact .inl (.inl e)
        · exact .inr (by have := e.1; omega)
        · exact .inr (by have := e.1; omega)))
      clear HY hd6 hf6 HL5 HF5
      go_wp2
      go_ret
      rw [eR.out]
      refine ⟨rfl, HD6.out.mono (fun j hj => ?_) (more_lt HLT.out (by omega)), HL6.out, HF6.out⟩
      refine more_up (w1 := w3) (by omega) ?_
      exact more_trans (w1 := w4) (by omega) (by omega) (more_trans (w1 := w5) (by omega) (by omega) hj)
    · have eR : Hid (R = (x2, S2)) := hid8 (by rw [← HR.out]; unfold beg; rw [HR1.out]; simp only []; rw [HR2.out]; simp [e2])
      have e2b : (x2 != 0) = true := by simpa using e2
      have HD5 := hid8 hd5
      have HL5 := hid8 hl5
      clear hd5 hl5
      go_wp2
      go_ret
      rw [eR.out]
      refine ⟨rfl, HD5.out.mono (fun j hj => ?_) (more_lt HLT.out (by omega)), HL5.out, HF5.out⟩
      refine more_up (w1 := w3) (by omega) ?_
      exact more_trans (w1 := w4) (by omega) (by omega) hj
  · have eR : Hid (R = (x1, S1)) := hid8 (by rw [← HR.out]; unfold beg; rw [HR1.out]; simp [e1])
    have e1b : (x1 != 0) = true := by simpa using e1
    have HD4 := hid8 hd4
    have HL4 := hid8 hl4
    clear hd4 hl4 g4
    go_wp2
    go_ret
    rw [eR.out]
    exact ⟨rfl, HD4.out.mono (fun j hj => more_up (w1 := w3) (by omega) hj) (more_lt HLT.out (by omega)), HL4.out, HF4.out⟩
end
end Go.Proofs.YthfcjfhaoabdeaaGreatDoor
