/-
  StoreFalls and StoreDoes: the script's reading; both stores at the start; a step. (Printed by gen_tbt.py.)
-/
import Derived.Test.YtbhpkidlhhkbmaaGreatDoorTbP
import Derived.Test.YtbhpkidlhhkbmaaGreatDoorCOpen
set_option linter.unusedVariables false
set_option linter.unusedSimpArgs false
namespace Go.Proofs.YtbhpkidlhhkbmaaGreatDoor
open Go.RowKit Go.Maps

abbrev Stp.cl (s : Stp) : List Value := [.int .i64 s.kd, .int .i64 s.a, .int .i64 s.b, .int .i64 s.c, .int .u64 s.v, .int .u64 s.x, .string s.t]
theorem cellsI3 : Tryz.prog.cellsOf 3 = 1 := by kernel_rfl
theorem cellsU64s : Tryz.prog.cellsOf 37 = 1 := by kernel_rfl
theorem cellsS9 : Tryz.prog.cellsOf 9 = 1 := by kernel_rfl
theorem cellsStp : Tryz.prog.cellsOf 39 = 7 := by kernel_rfl
section
variable {H : Type} {enc : TypeId × Value → H} {W : World} {a : Option Addr} {len cap : Nat} {d : DataW H} {p : List MemPlace}
set_option maxRecDepth 100000 in
theorem stp_of {n : Nat} {cs : List Value} {y : DataW H × List MemPlace} (hl : cs.length = 7) (ht : DataW.trod enc Tryz.prog W 0 (fun _ => true) true n 39 cs = some y) : ∃ o : Stp, o.ok ∧ cs = o.cl := by
  obtain ⟨xs, m, _, _, _, hxl, hfs⟩ := DataW.trod_struct Tryz.underlying39 ht
  have hx4 : xs.length = 7 := hxl
  match cs, hl with
  | [c0, c1, c2, c3, c4, c5, c6], _ =>
    obtain ⟨y0, e0⟩ := some_at hx4 (i := 0) (by omega)
    obtain ⟨y1, e1⟩ := some_at hx4 (i := 1) (by omega)
    obtain ⟨y2, e2⟩ := some_at hx4 (i := 2) (by omega)
    obtain ⟨y3, e3⟩ := some_at hx4 (i := 3) (by omega)
    obtain ⟨y4, e4⟩ := some_at hx4 (i := 4) (by omega)
    obtain ⟨y5, e5⟩ := some_at hx4 (i := 5) (by omega)
    obtain ⟨y6, e6⟩ := some_at hx4 (i := 6) (by omega)
    have h0 := (field_at hfs 0 3 0 _ cellsI3 rfl).trans e0
    have h1 := (field_at hfs 1 3 1 _ cellsI3 rfl).trans e1
    have h2 := (field_at hfs 2 3 2 _ cellsI3 rfl).trans e2
    have h3 := (field_at hfs 3 3 3 _ cellsI3 rfl).trans e3
    have h4 := (field_at hfs 4 37 4 _ cellsU64s rfl).trans e4
    have h5 := (field_at hfs 5 37 5 _ cellsU64s rfl).trans e5
    have h6 := (field_at hfs 6 9 6 _ cellsS9 rfl).trans e6
    dsimp only [List.drop, List.take] at h0 h1 h2 h3 h4 h5 h6
    obtain ⟨k0, q0, _, w0⟩ := DataW.trod_int Tryz.underlying3 h0
    obtain ⟨k1, q1, _, w1⟩ := DataW.trod_int Tryz.underlying3 h1
    obtain ⟨k2, q2, _, w2⟩ := DataW.trod_int Tryz.underlying3 h2
    obtain ⟨k3, q3, _, w3⟩ := DataW.trod_int Tryz.underlying3 h3
    obtain ⟨k4, q4, _, w4⟩ := DataW.trod_int Tryz.underlying37 h4
    obtain ⟨k5, q5, _, w5⟩ := DataW.trod_int Tryz.underlying37 h5
    obtain ⟨k6, q6, _, w6⟩ := DataW.trod_string Tryz.underlying9 h6
    simp only [List.cons.injEq, and_true] at q0 q1 q2 q3 q4 q5 q6
    subst q0 q1 q2 q3 q4 q5 q6
    exact ⟨⟨k0, k1, k2, k3, k4, k5, k6⟩, ⟨bounds_i64 w0, bounds_i64 w1, bounds_i64 w2, bounds_i64 w3, bounds_u64 w4, bounds_u64 w5, by unfold maxLen at w6; exact w6⟩, rfl⟩
theorem open_stps (h : DataW.Trod enc Tryz.prog W 0 (fun _ => true) true 22 (.slice a len cap) d p) : ∃ xs : List Stp, (∀ x ∈ xs, x.ok) ∧ Seq 7 Stp.cl W a len cap xs ∧ Long d len :=
  open_seq Stp.cl Stp.ok Tryz.underlying22 cellsStp (by decide) (fun _ _ => rfl) (fun m cs y hl hy => stp_of hl hy) h
end

/-- Both stores, made since w. -/
structure Bq (w wr : World) (K J : Nat → Prop) (sb d z rb : Nat) (A : Stt) (u : Nat) (m st : Int) (i : Nat) : Prop where
  bo : Bo wr K J sb d z rb A u m st i
  kb : ∀ j, K j ∨ J j → w.heap.size ≤ j
  bl : Below w.heap.size w wr
section
variable {w w' w1 w2 : World} {K J : Nat → Prop} {sb d z rb u : Nat} {A : Stt} {m st : Int} {i : Nat}
theorem bq_new {f : Int} (L : Lv w w1 K sb d z 0 Stt.zero 0) (hz : z ≤ 1000000000) (hf : f = (z : Int)) : ∃ m, Bq w (w1.alloc (.cells #[.slice none 0 0, .slice none 0 0, .slice none 0 0, .int .i64 f, .int .i64 0] 36)) K (fun j => j = w1.heap.size) sb d z w1.heap.size Stt.zero 0 m 0 0 := by
  subst hf
  obtain ⟨m, hm, hr⟩ := L.rp.re
  have h0 := L.rp.tab.1
  have hb : Below w1.heap.size w1 (w1.alloc (.cells #[.slice none 0 0, .slice none 0 0, .slice none 0 0, .int .i64 (z : Int), .int .i64 0] 36)) := (Below.refl _ _).alloc (Nat.le_refl _) _
  have hsz := L.bl.size
  refine ⟨m, ⟨⟨hr.below hb, ⟨.slice none 0 0, .slice none 0 0, .slice none 0 0, ⟨?_, Fw.start, Fw.start, Fw.start, Stt.zero_ok, fun c => by simp [Stt.zero], fun j e => ?_, fun j e => ?_, fun e => ?_⟩⟩, fun j hj e => ?_, fun c => by simp [Stt.zero], by omega, ⟨by omega, by omega⟩, by omega, hz⟩, fun j e => ?_, ?_⟩⟩
  · rw [show (z : Int) - ((0 : Nat) : Int) = (z : Int) by omega]
    exact heap_alloc_new w1 _
  · rcases e with e | e | e | e
    · exact e
    · cases e
    · cases e
    · cases e
  · subst e
    simp
  · omega
  · have := L.rp.kl j hj
    omega
  · rcases e with e | e
    · exact L.kb j e
    · omega
  · exact L.bl.trans ⟨hb.os, hb.tape, hb.output, hb.size, fun j hj => hb.block j (by omega)⟩
theorem Bq.step {tch : Prop} (h : Bq w w1 K J sb d z rb A u m st i) (hr : BoR w1 w2 K J sb d z rb m st (i + 1) tch) : ∃ K' J' A' u' m' st', Bq w w2 K' J' sb d z rb A' u' m' st' (i + 1) ∧ (tch → m' - m = st' - st) := by
  obtain ⟨K', J', A', u', m', st', hB, ht, hk, hF⟩ := hr
  refine ⟨K', J', A', u', m', st', ⟨hB, fun j e => ?_, h.bl.trans (hF.to (fun j hj e => ?_) h.bl.size)⟩, ht⟩
  · rcases Nat.lt_or_ge j w1.heap.size with q | q
    · exact h.kb j ((hk j q).1 e)
    · have := h.bl.size
      omega
  · have := h.kb j e
    omega
end
end Go.Proofs.YtbhpkidlhhkbmaaGreatDoor
