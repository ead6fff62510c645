/-
  Sn0: What together has left; made; a slice cut short.
  Sn1: What the laws read of what together has left. (Printed by gen_sn1.py.)
-/
import Derived.Test.YtopihgdbfhiejaaDoorSm6
import Derived.Test.YtopihgdbfhiejaaDoorSi2
import Derived.Test.YtopihgdbfhiejaaDoorSj4
set_option linter.unusedVariables false
set_option linter.unusedSimpArgs false
namespace Go.Proofs.YtopihgdbfhiejaaDoor

section
open Go.RowKit Go.Maps Go.Sort

theorem seq_cut {α : Type} {k : Nat} {f : α → List Value} {P : Program} {w : World} {ao : Option Addr} {len cap : Nat} {xs : List α} (h : Seq k f w ao len cap xs) (t e : TypeId) (ht : P.underlying t = some (.slice e)) (hs : ∀ u : World, (Go.sizeOf e).run P u = .ok k u) (m : Nat) (hm : m ≤ len) :
    ∃ ao', (∀ u : World, (Instr.slice t (.slice ao len cap) none (some (.int .i64 (m : Int))) none).run P u = .ok (.slice ao' m cap) u) ∧ Seq k f w ao' m cap (xs.take m) := by
  have ht' : P.underlying t = some (.slice (P.elem t)) := by simp [Program.elem, ht]
  have he : P.elem t = e := by simp [Program.elem, ht]
  have hc := h.2.1
  refine ⟨if cap = 0 then ao else ao.map (·.add (0 * k)), fun u => ?_, ⟨by rw [List.length_take, h.1]; omega, by omega, h.2.2.1, fun h0 => ?_⟩⟩
  · rw [run_slice_h u t _ len cap ht' .i64 m (by omega) (by omega), he, hs]
    simp only [Result.andThen, Int.toNat_natCast]
    unfold Go.sliced
    simp
  · obtain ⟨b2, off2, eo, hb, hcell⟩ := h.2.2.2 (by omega)
    subst eo
    refine ⟨b2, off2, by rw [if_neg (by omega)]; simp [addr_add], hb, fun i x hi => hcell i x ?_⟩
    have := (List.getElem?_eq_some_iff.1 hi).1
    rw [List.length_take] at this
    rw [List.getElem?_take_of_lt (by omega)] at hi
    exact hi
theorem size_ask (u : World) : (Go.sizeOf 33).run Tryd.prog u = .ok 5 u := by kernel_rfl
theorem size_int (u : World) : (Go.sizeOf 3).run Tryd.prog u = .ok 1 u := by kernel_rfl

section
variable {w : World} {s : Sl} {t : Nat} {u : Un}
theorem Ui.fin5 (h : Ui s t u) (hok : s.ok) (hf : u.fin.isSome = true) : u.o.st = 5 ∧ u.o.fk.size ≤ 16 ∧ ((okd u.x = 2 ∧ u.o.had = false ∧ u.o.code = 0) ↔ u.o.tw ≠ 0) := by
  cases hb : bad u.x with
  | true =>
    have e := h.nfed hf hb
    have ob := opA_bad u.x hb
    refine ⟨by rw [e], by rw [e]; show (opA u.x).fk.size ≤ 16; rw [ob.2.2.2.1]; simp, ⟨fun q => ?_, fun q => ?_⟩⟩
    · have := q.2.2; rw [e] at this; have : (100 : Int) = 0 := this; omega
    · rw [e] at q; exact absurd ob.2.1 q
  | false =>
    have f := h.fed hf hb
    refine ⟨f.st, ?_, ?_⟩
    · by_cases q : u.o.fk = .empty
      · rw [q]; simp
      · obtain ⟨j, h1, h2, h3⟩ := f.key q
        rw [← h3]; exact good_le hok h2
    · rcases f.ans with q | q | q | q
      · exact ⟨fun _ => q.1, fun _ => ⟨q.2.1.kd, q.2.2.1, f.code⟩⟩
      · exact ⟨fun c => absurd c.2.1 (by rw [q.2.1]; decide), fun c => absurd q.1 c⟩
      · exact ⟨fun c => absurd c.2.1 (by rw [q.2.2.1]; decide), fun c => absurd q.1 c⟩
      · exact ⟨fun c => absurd c.1 q.2.1, fun c => absurd q.1 c⟩
theorem okd_pk (x : AskR) : okd x = 2 ↔ pk x.kind 3 = 0 := by
  have := pk_lt x.kind (n := 3) (by decide)
  unfold okd
  refine ⟨fun h => ?_, fun h => by rw [if_pos h]⟩
  split at h
  · assumption
  · split at h <;> omega
theorem kys_nodup (hok : s.ok) : (kys s).Nodup := by
  unfold kys
  rw [List.nodup_iff_pairwise_ne, List.pairwise_map, List.pairwise_iff_getElem]
  intro i j hi hj hij e
  have hi' : i + 1 < s.tw.length := by simp at hi; omega
  have hj' : j + 1 < s.tw.length := by simp at hj; omega
  have ei : s.tw.tail[i] = s.at (i + 1) := by
    rw [List.getElem_tail]
    simp [Sl.at, List.getD, List.getElem?_eq_getElem hi']
  have ej : s.tw.tail[j] = s.at (j + 1) := by
    rw [List.getElem_tail]
    simp [Sl.at, List.getD, List.getElem?_eq_getElem hj']
  rw [ei, ej] at e
  have := hok.one (i + 1) (j + 1) hi' hj' (bl_inj e)
  omega
theorem kys_mem {y : List UInt8} (h : y ∈ kys s) : ∃ i, 1 ≤ i ∧ i < s.tw.length ∧ y = kt (s.at i).k := by
  unfold kys at h
  obtain ⟨tw, htw, rfl⟩ := List.mem_map.1 h
  obtain ⟨i, hi, rfl⟩ := List.getElem_of_mem htw
  have hi' : i + 1 < s.tw.length := by simp at hi; omega
  refine ⟨i + 1, by omega, hi', ?_⟩
  rw [List.getElem_tail]
  simp [Sl.at, List.getD, List.getElem?_eq_getElem hi']
set_option maxRecDepth 100000 in
set_option maxHeartbeats 2000000 in
theorem made_any (hT : Tab w) : Calls Tryd.prog 23 #[] w fun e w' => ∃ (lb : Nat) (K : Nat → Prop), e = .returned (.tuple #[.pointer (some ⟨w.heap.size + 1, 0, none⟩), .pointer (some ⟨lb, 0, none⟩)]) ∧ LT w' K lb (w.heap.size + 1) 600 0 s0 ∧ (∀ j, K j → w.heap.size ≤ j) ∧ Below w.heap.size w w' := by
  have HN := hide2 (New_any 600 w (by decide) (by decide))
  have HT0 := hide2 hT
  have hw0 := hT.1
  clear hT
  go_enter Tryd.func23, Tryd.ntmps23
  go_wp2_with fail
  refine HN.out.mono ?_
  rintro e w1 ⟨rfl, ⟨F, hA⟩, hb⟩
  rw [← up_zero] at hA
  have HB := hide2 hb
  have HH := hide2 (new_any hA (HT0.out.below hb hw0) (by omega) (by omega) (by decide))
  clear HN hA hb
  go_wp2_with fail
  refine HH.out.mono ?_
  rintro e w2 ⟨lb, K, gt, F', rfl, h1, h2, h3⟩
  have hs := HB.out.size
  have RES : Hid (∃ K, LT w2 K lb (w.heap.size + 1) 600 0 s0 ∧ (∀ j, K j → w.heap.size ≤ j) ∧ Below w.heap.size w w2) := hide2 ⟨K, ⟨_, _, _, _, _, _, _, _, h1, s0_ok, s0_cw 600 (by decide), rfl, by decide, by decide⟩, fun j hj => by have := h2 j hj; omega, HB.out.trans (h3.to (fun k hk e => by omega) hs)⟩
  clear HH h1 h2 h3 HB
  go_wp2
  go_ret2
  obtain ⟨K, r1, r2, r3⟩ := RES.out
  exact ⟨lb, K, rfl, r1, r2, r3⟩
end
end

section
open Go.RowKit Go.Maps Go.Sort

/-- The asks that have put a key in. -/
def insL (l : List Un) : List AskR := (l.filter fun u => decide (u.o.tw ≠ 0)).map Un.x
def usd (l : List Un) : Nat := 8 + (l.map Un.hh).sum
/-- What together has left, and a row of asks. -/
structure Hs (w wr : World) (lb d M : Nat) (K : Nat → Prop) (s : Sl) (l : List Un) (vo v : Value) (ins : List AskR) : Prop where
  ht : LT wr K lb d 600 M s
  row : wr.ownsRow w.heap.size 56 8 vo l.length (l.flatMap Un.cells)
  ops : ∀ u ∈ l, Om wr u.b (lpp lb) u.cv u.o
  ar : Ar wr w.heap.size v ins
  kb : ∀ j, K j → w.heap.size ≤ j
  ko : ∀ j, vo.ownBlock = some j → ¬ K j
  ku : ∀ u ∈ l, ¬ K u.b ∧ w.heap.size ≤ u.b ∧ vo.ownBlock ≠ some u.b
  kv : ∀ j, v.ownBlock = some j → ¬ K j ∧ vo.ownBlock ≠ some j ∧ ∀ u ∈ l, u.b ≠ j
  bl : Below w.heap.size w wr
  b0 : 0 < w.heap.size
section
variable {w wr w' : World} {lb d M P i : Nat} {K : Nat → Prop} {s s' : Sl} {l : List Un} {vo v v' : Value} {ins : List AskR} {xs : List AskR} {ab nb : Nat} {at4 : List Nat} {now4 : List (Option Nat)}
theorem Tl.hs (h : Tl w wr lb d xs P i K s l v ab nb at4 now4) (hi : i ≤ 10000000) : Hs w wr lb d 10000000 K s l v (.slice none 0 0) [] :=
  ⟨h.tm.ht.up hi, h.tm.row, fun u hu => (h.tm.ops u hu).om, ⟨rfl, .inl ⟨rfl, rfl⟩⟩, h.tm.kb, fun j e => (h.tm.kv j e).1, fun u hu => by
    have := h.tm.ko u hu u.b ((h.tm.ops u hu).kk u.b (.inl rfl))
    exact ⟨this.1, this.2.1, this.2.2.1⟩, fun j e => (by cases e), h.tm.bl, h.tm.b0⟩
theorem Hs.below (h : Hs w wr lb d M K s l vo v ins) (hb : Below wr.heap.size wr w') : Hs w w' lb d M K s l vo v ins :=
  ⟨h.ht.below hb, hrow_fr h.row (Fr.below (F := fun _ => False) hb) (fun _ _ => id), fun u hu => (h.ops u hu).same (hb.block _ (h.ops u hu).lt), hrow_fr h.ar (Fr.below (F := fun _ => False) hb) (fun _ _ => id), h.kb, h.ko, h.ku, h.kv, h.bl.trans ⟨hb.os, hb.tape, hb.output, hb.size, fun j hj => hb.block j (by have := h.bl.size; omega)⟩, h.b0⟩
theorem Hs.up {M' : Nat} (h : Hs w wr lb d M K s l vo v ins) (hM : M ≤ M') : Hs w wr lb d M' K s l vo v ins :=
  ⟨h.ht.up hM, h.row, h.ops, h.ar, h.kb, h.ko, h.ku, h.kv, h.bl, h.b0⟩
/-- Another row of asks. -/
theorem Hs.rowed {ins' : List AskR} (h : Hs w wr lb d M K s l vo v ins) (hF : Fr (fun j => v.ownBlock = some j) wr w') (hr : Ar w' w.heap.size v' ins') (hv : ∀ j, v'.ownBlock = some j → v.ownBlock = some j ∨ wr.heap.size ≤ j) : Hs w w' lb d M K s l vo v' ins' := by
  have hvl : ∀ j, v.ownBlock = some j → w.heap.size ≤ j ∧ j < wr.heap.size := fun j e => World.ownsRow.lt h.ar j e
  have hvo : ∀ j, vo.ownBlock = some j → w.heap.size ≤ j ∧ j < wr.heap.size := fun j e => World.ownsRow.lt h.row j e
  refine ⟨h.ht.keep hF (fun j hj e => (h.kv j e).1 hj) (fun e => by have := (hvl 0 e).1; have := h.b0; omega), hrow_fr h.row hF (fun j e q => (h.kv j q).2.1 e), fun u hu => (h.ops u hu).fr hF (fun q => (h.kv _ q).2.2 u hu rfl), hr, h.kb, h.ko, h.ku, fun j e => ?_, h.bl.trans (hF.to (fun j hj e => by have := (hvl j e).1; omega) h.bl.size), h.b0⟩
  rcases hv j e with q | q
  · exact h.kv j q
  · exact ⟨fun c => by have := h.ht.kl j c; omega, fun c => by have := (hvo j c).2; omega, fun u hu c => by have := (h.ops u hu).lt; omega⟩
/-- An operation of its own, done. -/
theorem Hs.went {K' : Nat → Prop} {ob M' : Nat} (h : Hs w wr lb d M K s l vo v ins) (hl : LT w' K' lb d 600 M' s') (hob : wr.heap.size ≤ ob) {w1 : World} (hb : Below wr.heap.size wr w1) (hK : ∀ j, j < w1.heap.size → (K' j ↔ K j)) (hF : Fr (fun j => K j ∨ j = ob) w1 w') : Hs w w' lb d M' K' s' l vo v ins := by
  have h1 := h.below hb
  have hs1 := h.bl.size
  have hs2 := hb.size
  have hvl : ∀ j, v.ownBlock = some j → w.heap.size ≤ j ∧ j < wr.heap.size := fun j e => World.ownsRow.lt h.ar j e
  have hvo : ∀ j, vo.ownBlock = some j → w.heap.size ≤ j ∧ j < wr.heap.size := fun j e => World.ownsRow.lt h.row j e
  refine ⟨hl, hrow_fr h1.row hF (fun j e q => ?_), fun u hu => (h1.ops u hu).fr hF (fun q => ?_), hrow_fr h1.ar hF (fun j e q => ?_), fun j hj => ?_, fun j e q => ?_, fun u hu => ?_, fun j e => ?_, h1.bl.trans (hF.to (fun j hj q => ?_) h1.bl.size), h.b0⟩
  · rcases q with q | q
    · exact h.ko j e q
    · have := (hvo j e).2; omega
  · rcases q with q | q
    · exact (h.ku u hu).1 q
    · have := (h.ops u hu).lt; omega
  · rcases q with q | q
    · exact (h.kv j e).1 q
    · have := (hvl j e).2; omega
  · rcases Nat.lt_or_ge j w1.heap.size with q | q
    · exact h.kb j ((hK j q).1 hj)
    · omega
  · exact h.ko j e ((hK j (by have := (hvo j e).2; omega)).1 q)
  · have := (h.ops u hu).lt
    exact ⟨fun q => (h.ku u hu).1 ((hK u.b (by omega)).1 q), (h.ku u hu).2⟩
  · obtain ⟨a1, a2⟩ := h.kv j e
    exact ⟨fun q => a1 ((hK j (by have := (hvl j e).2; omega)).1 q), a2⟩
  · rcases q with q | q
    · have := h.kb j q; omega
    · omega
theorem take_next {l : List Un} {m : Nat} {u : Un} (hu : l[m]? = some u) : l.take (m + 1) = l.take m ++ [u] := by
  rw [List.take_add_one, hu]; rfl
theorem insL_yes {m : Nat} {u : Un} (hu : l[m]? = some u) (hw : u.o.tw ≠ 0) : insL (l.take (m + 1)) = insL (l.take m) ++ [u.x] := by
  unfold insL
  rw [take_next hu, List.filter_append, List.map_append]
  simp [hw]
theorem insL_no {m : Nat} {u : Un} (hu : l[m]? = some u) (hw : u.o.tw = 0) : insL (l.take (m + 1)) = insL (l.take m) := by
  unfold insL
  rw [take_next hu, List.filter_append, List.map_append]
  simp [hw]
theorem usd_yes {m : Nat} {u : Un} (hu : l[m]? = some u) (hw : u.o.tw ≠ 0) : usd (l.take (m + 1)) = usd (l.take m) + hgt u.x.h := by
  unfold usd
  rw [take_next hu, List.map_append, List.sum_append]
  have : u.hh = hgt u.x.h := by unfold Un.hh; rw [if_neg hw]
  simp [this]
  omega
theorem usd_no {m : Nat} {u : Un} (hu : l[m]? = some u) (hw : u.o.tw = 0) : usd (l.take (m + 1)) = usd (l.take m) := by
  unfold usd
  rw [take_next hu, List.map_append, List.sum_append]
  have : u.hh = 0 := by unfold Un.hh; rw [if_pos hw]
  simp [this]
theorem usd_le (l : List Un) : usd l ≤ 8 + 8 * l.length := by
  unfold usd
  have key : (l.map Un.hh).sum ≤ 8 * l.length := by
    induction l with
    | nil => simp
    | cons u l ih =>
      rw [List.map_cons, List.sum_cons, List.length_cons]
      have : u.hh ≤ 8 := by
        unfold Un.hh
        have := hgt_bd u.x.h
        split <;> omega
      omega
  omega
theorem insL_le (l : List Un) : (insL l).length ≤ l.length := by
  unfold insL
  rw [List.length_map]
  exact List.length_filter_le _ _
theorem Hs.cellAt {n : Nat} {g cap : Nat} (h : Hs w wr lb d M K s l (.slice (some ⟨g, 0, none⟩) n cap) v ins) {m : Nat} {u : Un} (hu : l[m]? = some u) (i : Nat) (hi : i < 8) : wr.cell? ⟨g, m * 8 + i, none⟩ = u.cells[i]? := by
  have hml := (List.getElem?_eq_some_iff.1 hu).1
  have hln : n = l.length := by
    rcases h.row.2 with ⟨e, e0⟩ | ⟨g9, c9, cur9, e, -⟩
    · cases e
    · simp at e; exact e.2.1
  subst hln
  rw [World.ownsRow.cellAt h.row (m * 8 + i) (by omega), flat8 l m i u hu hi]
theorem ask_new (w : World) (x : AskR) : ∀ j u, x.cells[j]? = some u → (w.alloc (.cells #[.int .i64 x.w, .int .i64 x.kind, .string x.key, .int .i64 x.ref, .int .i64 x.h] 33)).cell? ((⟨w.heap.size, 0, none⟩ : Addr).add j) = some u := by
  intro j u h
  have hb : (w.alloc (.cells #[.int .i64 x.w, .int .i64 x.kind, .string x.key, .int .i64 x.ref, .int .i64 x.h] 33)).heap[w.heap.size]? = some (.cells #[.int .i64 x.w, .int .i64 x.kind, .string x.key, .int .i64 x.ref, .int .i64 x.h] 33 (0, 0)) := heap_alloc_new w _
  rw [addr_add, Go.Joins.cell_of_block hb, ← Array.getElem?_toList]
  simp only [Nat.zero_add]
  exact h
theorem infoAsk : (Tryd.prog.info? 33).map (fun i => (i.zero, i.size, i.bytes)) = some (some (.agg #[.int .i64 0, .int .i64 0, .string .empty, .int .i64 0, .int .i64 0]), 5, 48) := by kernel_rfl
end
end
end Go.Proofs.YtopihgdbfhiejaaDoor
