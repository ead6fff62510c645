/-
  What together has left; made; a slice cut short.
-/
import Derived.Test.YtopihgdbfhiejaaDoorSm6
import Derived.Test.YtopihgdbfhiejaaDoorSi2
import Derived.Test.YtopihgdbfhiejaaDoorSj4
set_option linter.unusedVariables false
set_option linter.unusedSimpArgs false
namespace Go.Proofs.YtopihgdbfhiejaaDoor
open Go.RowKit Go.Maps Go.Sort

theorem seq_cut {α : Type} {k : Nat} {f : α → List Value} {P : Program} {w : World} {ao : Option Addr} {len cap : Nat} {xs : List α} (h : Seq k f w ao len cap xs) (t e : TypeId) (ht : P.underlying t = some (.slice e)) (hs : ∀ u : World, (Go.sizeOf e).run P u = .ok k u) (m : Nat) (hm : m ≤ len) :
    ∃ ao', (∀ u : World, (Instr.slice t (.slice ao len cap) none (some (.int .i64 (m : Int))) none).run P u = .ok (.slice ao' m cap) u) ∧ Seq k f w ao' m cap (xs.take m) := by
  have ht' : P.underlying t = some (.slice (P.elem t)) := by simp [Program.elem, ht]
  have he : P.elem t = e := by simp [Program.elem, ht]
  have hc := h.2.1
  refine ⟨if cap = 0 then ao else ao.map (·.add (0 * k)), fun u => ?_, ⟨by rw [List.length_take, h.1]; omega, by omega, h.2.2.1, fun h0 => ?_⟩⟩
  · rw [run_slice_h u t _ len cap ht' .i64 m (by omega) (by omega), he, hs]
    simp only [Result.andThen, Int.toNat_natCast]
    unfold Go.sliced
    simp
  · obtain ⟨b2, off2, eo, hb, hcell⟩ := h.2.2.2 (by omega)
    subst eo
    refine ⟨b2, off2, by rw [if_neg (by omega)]; simp [addr_add], hb, fun i x hi => hcell i x ?_⟩
    have := (List.getElem?_eq_some_iff.1 hi).1
    rw [List.length_take] at this
    rw [List.getElem?_take_of_lt (by omega)] at hi
    exact hi
theorem size_ask (u : World) : (Go.sizeOf 33).run Tryd.prog u = .ok 5 u := by kernel_rfl
theorem size_int (u : World) : (Go.sizeOf 3).run Tryd.prog u = .ok 1 u := by kernel_rfl

section
variable {w : World} {s : Sl} {t : Nat} {u : Un}
theorem Ui.fin5 (h : Ui s t u) (hok : s.ok) (hf : u.fin.isSome = true) : u.o.st = 5 ∧ u.o.fk.size ≤ 16 ∧ ((okd u.x = 2 ∧ u.o.had = false ∧ u.o.code = 0) ↔ u.o.tw ≠ 0) := by
  cases hb : bad u.x with
  | true =>
    have e := h.nfed hf hb
    have ob := opA_bad u.x hb
    refine ⟨by rw [e], by rw [e]; show (opA u.x).fk.size ≤ 16; rw [ob.2.2.2.1]; simp, ⟨fun q => ?_, fun q => ?_⟩⟩
    · have := q.2.2; rw [e] at this; have : (100 : Int) = 0 := this; omega
    · rw [e] at q; exact absurd ob.2.1 q
  | false =>
    have f := h.fed hf hb
    refine ⟨f.st, ?_, ?_⟩
    · by_cases q : u.o.fk = .empty
      · rw [q]; simp
      · obtain ⟨j, h1, h2, h3⟩ := f.key q
        rw [← h3]; exact good_le hok h2
    · rcases f.ans with q | q | q | q
      · exact ⟨fun _ => q.1, fun _ => ⟨q.2.1.kd, q.2.2.1, f.code⟩⟩
      · exact ⟨fun c => absurd c.2.1 (by rw [q.2.1]; decide), fun c => absurd q.1 c⟩
      · exact ⟨fun c => absurd c.2.1 (by rw [q.2.2.1]; decide), fun c => absurd q.1 c⟩
      · exact ⟨fun c => absurd c.1 q.2.1, fun c => absurd q.1 c⟩
theorem okd_pk (x : AskR) : okd x = 2 ↔ pk x.kind 3 = 0 := by
  have := pk_lt x.kind (n := 3) (by decide)
  unfold okd
  refine ⟨fun h => ?_, fun h => by rw [if_pos h]⟩
  split at h
  · assumption
  · split at h <;> omega
theorem kys_nodup (hok : s.ok) : (kys s).Nodup := by
  unfold kys
  rw [List.nodup_iff_pairwise_ne, List.pairwise_map, List.pairwise_iff_getElem]
  intro i j hi hj hij e
  have hi' : i + 1 < s.tw.length := by simp at hi; omega
  have hj' : j + 1 < s.tw.length := by simp at hj; omega
  have ei : s.tw.tail[i] = s.at (i + 1) := by
    rw [List.getElem_tail]
    simp [Sl.at, List.getD, List.getElem?_eq_getElem hi']
  have ej : s.tw.tail[j] = s.at (j + 1) := by
    rw [List.getElem_tail]
    simp [Sl.at, List.getD, List.getElem?_eq_getElem hj']
  rw [ei, ej] at e
  have := hok.one (i + 1) (j + 1) hi' hj' (bl_inj e)
  omega
theorem kys_mem {y : List UInt8} (h : y ∈ kys s) : ∃ i, 1 ≤ i ∧ i < s.tw.length ∧ y = kt (s.at i).k := by
  unfold kys at h
  obtain ⟨tw, htw, rfl⟩ := List.mem_map.1 h
  obtain ⟨i, hi, rfl⟩ := List.getElem_of_mem htw
  have hi' : i + 1 < s.tw.length := by simp at hi; omega
  refine ⟨i + 1, by omega, hi', ?_⟩
  rw [List.getElem_tail]
  simp [Sl.at, List.getD, List.getElem?_eq_getElem hi']
set_option maxRecDepth 100000 in
set_option maxHeartbeats 2000000 in
theorem made_any (hT : Tab w) : Calls Tryd.prog 23 #[] w fun e w' => ∃ (lb : Nat) (K : Nat → Prop), e = .returned (.tuple #[.pointer (some ⟨w.heap.size + 1, 0, none⟩), .pointer (some ⟨lb, 0, none⟩)]) ∧ LT w' K lb (w.heap.size + 1) 600 0 s0 ∧ (∀ j, K j → w.heap.size ≤ j) ∧ Below w.heap.size w w' := by
  have HN := hide2 (New_any 600 w (by decide) (by decide))
  have HT0 := hide2 hT
  have hw0 := hT.1
  clear hT
  go_enter Tryd.func23, Tryd.ntmps23
  go_wp2_with fail
  refine HN.out.mono ?_
  rintro e w1 ⟨rfl, ⟨F, hA⟩, hb⟩
  rw [← up_zero] at hA
  have HB := hide2 hb
  have HH := hide2 (new_any hA (HT0.out.below hb hw0) (by omega) (by omega) (by decide))
  clear HN hA hb
  go_wp2_with fail
  refine HH.out.mono ?_
  rintro e w2 ⟨lb, K, gt, F', rfl, h1, h2, h3⟩
  have hs := HB.out.size
  have RES : Hid (∃ K, LT w2 K lb (w.heap.size + 1) 600 0 s0 ∧ (∀ j, K j → w.heap.size ≤ j) ∧ Below w.heap.size w w2) := hide2 ⟨K, ⟨_, _, _, _, _, _, _, _, h1, s0_ok, s0_cw 600 (by decide), rfl, by decide, by decide⟩, fun j hj => by have := h2 j hj; omega, HB.out.trans (h3.to (fun k hk e => by omega) hs)⟩
  clear HH h1 h2 h3 HB
  go_wp2
  go_ret2
  obtain ⟨K, r1, r2, r3⟩ := RES.out
  exact ⟨lb, K, rfl, r1, r2, r3⟩
end
end Go.Proofs.YtopihgdbfhiejaaDoor
