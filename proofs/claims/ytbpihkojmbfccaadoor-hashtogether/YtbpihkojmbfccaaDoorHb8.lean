/-
  Asks; the law's begun, find, sorted; an operation whose key is none.
-/
import Derived.Test.YtbpihkojmbfccaaDoorHb6
import Derived.Test.YtbpihkojmbfccaaDoorHb7
import Derived.Test.YtbpihkojmbfccaaDoorCOpen
set_option linter.unusedVariables false
set_option linter.unusedSimpArgs false
namespace Go.Proofs.YtbpihkojmbfccaaDoor
open Go.RowKit Go.Maps Go.Sort

structure AskR where
  w : Int
  look : Bool
  key : ByteArray
  ref : Int
def AskR.cells (a : AskR) : List Value := [.int .i64 a.w, .bool a.look, .string a.key, .int .i64 a.ref]
def AskR.val (a : AskR) : Value := .agg #[.int .i64 a.w, .bool a.look, .string a.key, .int .i64 a.ref]
def AskR.ok (a : AskR) : Prop := I64 a.w ∧ a.key.size ≤ maxLen ∧ I64 a.ref
theorem cellsSt9 : Tryd.prog.cellsOf 9 = 1 := by kernel_rfl
theorem cellsBo9 : Tryd.prog.cellsOf 4 = 1 := by kernel_rfl
theorem cellsAsk : Tryd.prog.cellsOf 30 = 4 := by kernel_rfl

section
variable {H : Type} {enc : TypeId × Value → H} {W : World} {a : Option Addr} {len cap : Nat} {d : DataW H} {p : List MemPlace}
set_option maxRecDepth 100000 in
theorem ask_of {n : Nat} {cs : List Value} {y : DataW H × List MemPlace} (hl : cs.length = 4) (ht : DataW.trod enc Tryd.prog W 0 (fun _ => true) true n 30 cs = some y) : ∃ o : AskR, o.ok ∧ cs = o.cells := by
  obtain ⟨xs, m, _, _, _, hxl, hfs⟩ := DataW.trod_struct Tryd.underlying30 ht
  have hx4 : xs.length = 4 := hxl
  match cs, hl with
  | [c0, c1, c2, c3], _ =>
    obtain ⟨y0, e0⟩ := some_at hx4 (i := 0) (by omega)
    obtain ⟨y1, e1⟩ := some_at hx4 (i := 1) (by omega)
    obtain ⟨y2, e2⟩ := some_at hx4 (i := 2) (by omega)
    obtain ⟨y3, e3⟩ := some_at hx4 (i := 3) (by omega)
    have h0 := (field_at hfs 0 3 0 _ cellsInt rfl).trans e0
    have h1 := (field_at hfs 1 4 1 _ cellsBo9 rfl).trans e1
    have h2 := (field_at hfs 2 9 2 _ cellsSt9 rfl).trans e2
    have h3 := (field_at hfs 3 3 3 _ cellsInt rfl).trans e3
    dsimp only [List.drop, List.take] at h0 h1 h2 h3
    obtain ⟨k0, q0, _, w0⟩ := DataW.trod_int Tryd.underlying3 h0
    obtain ⟨k1, q1, _⟩ := DataW.trod_bool Tryd.underlying4 h1
    obtain ⟨k2, q2, _, w2⟩ := DataW.trod_string Tryd.underlying9 h2
    obtain ⟨k3, q3, _, w3⟩ := DataW.trod_int Tryd.underlying3 h3
    simp only [List.cons.injEq, and_true] at q0 q1 q2 q3
    subst q0 q1 q2 q3
    exact ⟨⟨k0, k1, k2, k3⟩, ⟨bounds_i64 w0, w2, bounds_i64 w3⟩, rfl⟩
theorem open_asks (h : DataW.Trod enc Tryd.prog W 0 (fun _ => true) true 22 (.slice a len cap) d p) : ∃ xs : List AskR, (∀ x ∈ xs, x.ok) ∧ Seq 4 AskR.cells W a len cap xs ∧ Long d len :=
  open_seq AskR.cells AskR.ok Tryd.underlying22 cellsAsk (by decide) (fun _ _ => rfl) (fun m cs y hl hy => ask_of hl hy) h
end

/-- A row of asks of one's own. -/
def Ar (w : World) (base : Nat) (v : Value) (l : List AskR) : Prop := w.ownsRow base 30 4 v l.length (l.flatMap AskR.cells)
theorem flat4 (l : List AskR) (i j : Nat) (x : AskR) (hi : l[i]? = some x) (hj : j < 4) : (l.flatMap AskR.cells)[i * 4 + j]? = x.cells[j]? := by
  induction l generalizing i with
  | nil => simp at hi
  | cons y ys ih =>
    rw [List.flatMap_cons]
    cases i with
    | zero =>
      simp at hi; subst hi
      rw [List.getElem?_append_left (by show 0 * 4 + j < 4; omega), Nat.zero_mul, Nat.zero_add]
    | succ i =>
      rw [List.getElem?_append_right (by show 4 ≤ _; omega)]
      rw [show (i + 1) * 4 + j - y.cells.length = i * 4 + j by show _ - 4 = _; omega]
      exact ih i (by simpa using hi)
theorem Ar.seq {w : World} {base : Nat} {v : Value} {l : List AskR} (h : Ar w base v l) : ∃ ao cap, v = .slice ao l.length cap ∧ Seq 4 AskR.cells w ao l.length cap l := by
  rcases h.2 with ⟨rfl, h0⟩ | ⟨g, cap, cur, rfl, hg, hh, hn, hm, hs, ht⟩
  · refine ⟨none, 0, by rw [h0], rfl, by omega, Nat.zero_le _, fun h => absurd h (by omega)⟩
  · refine ⟨_, cap, rfl, rfl, hn, hm, fun hl => ⟨g, 0, rfl, (Array.getElem?_eq_some_iff.1 hh).1, fun i x hi j u hu => ?_⟩⟩
    have hil := (List.getElem?_eq_some_iff.1 hi).1
    have hj : j < 4 := (List.getElem?_eq_some_iff.1 hu).1
    have hown : w.ownsRow base 30 4 (.slice (some ⟨g, 0, none⟩) l.length cap) l.length (l.flatMap AskR.cells) := h
    rw [Nat.zero_add, hown.cellAt (i * 4 + j) (by omega), flat4 l i j x hi hj]
    exact hu

section
variable {w : World} {K : Nat → Prop} {tb d z M : Nat} {s : Tb}
set_option maxRecDepth 100000 in
set_option maxHeartbeats 2000000 in
theorem HT.begun (h : HT w K tb d z M s) (a : AskR) (ha : a.key.size ≤ maxLen) :
    Calls Tryd.prog 11 #[.pointer (some ⟨tb, 0, none⟩), a.val] w fun e w' => e = .returned (.pointer (some ⟨w.heap.size + 1, 0, none⟩)) ∧ Om w' (w.heap.size + 1) (tp tb) (opB s a.key (!a.look) (if a.look = true then 0 else a.ref)) ∧ Below w.heap.size w w' := by
  obtain ⟨w1, hw1⟩ : ∃ x, x = w.alloc (.cells #[.int .i64 a.w, .bool a.look, .string a.key, .int .i64 a.ref] 30) := ⟨_, rfl⟩
  have hb1 : Below w.heap.size w w1 := by rw [hw1]; exact (Below.refl _ _).alloc (Nat.le_refl _) _
  have hs1 : w1.heap.size = w.heap.size + 1 := by rw [hw1]; simp
  have hn1 : w1.heap[w.heap.size]? = some (.cells #[.int .i64 a.w, .bool a.look, .string a.key, .int .i64 a.ref] 30 (0, 0)) := by rw [hw1]; exact heap_alloc_new w _
  have m1 : w1.cell? ⟨w.heap.size, 1, none⟩ = some (.bool a.look) := by rw [Go.Joins.cell_of_block hn1]; rfl
  have m2 : w1.cell? ⟨w.heap.size, 2, none⟩ = some (.string a.key) := by rw [Go.Joins.cell_of_block hn1]; rfl
  have m3 : w1.cell? ⟨w.heap.size, 3, none⟩ = some (.int .i64 a.ref) := by rw [Go.Joins.cell_of_block hn1]; rfl
  have h1 := h.mono hb1
  have hi := h1.insert a.key ha a.ref
  have hl := h1.lookup a.key ha
  rw [hs1] at hi hl
  have HI := hide2 hi
  have HL := hide2 hl
  have HB1 := hide2 hb1
  clear h h1 hi hl hb1 hn1 hs1
  unfold AskR.val
  have HF : ∀ w' : World, Below (w.heap.size + 1) w1 w' → Below w.heap.size w w' := fun w' hb => HB1.out.trans ⟨hb.os, hb.tape, hb.output, hb.size, fun j hj => hb.block j (by omega)⟩
  cases hlk : a.look with
  | true =>
    rw [hlk] at m1 hw1
    subst hw1
    have HFF := hide2 HF
    clear HF
    go_enter Tryd.func11, Tryd.ntmps11
    go_wp2_with fail
    refine HL.out.mono ?_
    rintro e w2 ⟨rfl, ho, hb⟩
    go_wp2
    go_ret
    exact ⟨rfl, ho, HFF.out _ hb⟩
  | false =>
    rw [hlk] at m1 hw1
    subst hw1
    have HFF := hide2 HF
    clear HF
    go_enter Tryd.func11, Tryd.ntmps11
    go_wp2_with fail
    refine HI.out.mono ?_
    rintro e w2 ⟨rfl, ho, hb⟩
    go_wp2
    go_ret
    exact ⟨rfl, ho, HFF.out _ hb⟩

/-- Where a key stands among asks. -/
def Fd (xs : List AskR) (k : ByteArray) (r : Int) : Prop :=
  (r = -1 ∧ ∀ a ∈ xs, a.key ≠ k) ∨ ∃ (i : Nat) (a : AskR), r = (i : Int) ∧ xs[i]? = some a ∧ a.key = k
set_option maxRecDepth 100000 in
set_option maxHeartbeats 2000000 in
theorem find_any9 {ao : Option Addr} {len cap : Nat} {xs : List AskR} (hs : Seq 4 AskR.cells w ao len cap xs) (k : ByteArray) :
    Calls Tryd.prog 14 #[.slice ao len cap, .string k] w fun e w' => (∃ r : Int, e = .returned (.int .i64 r) ∧ Fd xs k r) ∧ w' = w := by
  have hcap := hs.2.1
  have hmax := hs.2.2.1
  unfold maxLen at hmax
  go_enter Tryd.func14, Tryd.ntmps14
  go_wp2
  go_loop [5] (fun i => ∃ n : Nat, n ≤ len ∧ i = .int .i64 n ∧ Hid (∀ a ∈ xs.take n, a.key ≠ k)) (fun i => len - (intOf i).toNat)
  case atStart => exact ⟨0, by omega, rfl, hide2 (fun a ha => by simp at ha)⟩
  case round =>
    obtain ⟨n, hn, rfl, hno⟩ := hrel
    by_cases hl : n < len
    · obtain ⟨b, off, rfl, hbl, hcell⟩ := hs.2.2.2 (by omega)
      obtain ⟨a, ha⟩ := some_at hs.1 hl
      have q2 : w.cell? ⟨b, off + n * 4 + 2, none⟩ = some (.string a.key) := hcell n a ha 2 _ rfl
      have hl2 : (n : Int) < (len : Int) := by omega
      have hn2 : n < xs.length := by rw [hs.1]; exact hl
      have hat : xs[n] = a := by rw [List.getElem?_eq_getElem hn2] at ha; exact Option.some.inj ha
      have HE : Hid (xs.take (n + 1) = xs.take n ++ [a]) := hide2 (by rw [← List.take_append_getElem hn2, hat])
      have HA := hide2 ha
      by_cases hk : a.key = k
      · have e1 : (a.key.toList == k.toList) = true := by rw [hk]; simp
        have HK := hide2 hk
        clear hcell ha hat hk
        go_wp2
        go_ret
        exact ⟨⟨_, rfl, .inr ⟨n, a, rfl, HA.out, HK.out⟩⟩, rfl⟩
      · have e1 : (a.key.toList == k.toList) = false := by
          rw [beq_eq_false_iff_ne]; exact fun q => hk (toList_inj q)
        have HK := hide2 hk
        clear hcell ha hat hk
        go_wp2
        go_round
        case rel => exact ⟨n + 1, by omega, by go_num, hide2 (by rw [HE.out]; intro x hx; rcases List.mem_append.1 hx with h1 | h1; exact hno.out x h1; simp at h1; subst h1; exact HK.out)⟩
        case measure => simp [intOf]; omega
    · obtain rfl : n = len := by omega
      have HO : Hid (∀ a ∈ xs, a.key ≠ k) := hide2 (by
        have h := hno.out
        rw [show xs.take n = xs from by rw [← hs.1]; exact List.take_length] at h
        exact h)
      go_wp2
      go_ret
      exact ⟨⟨_, rfl, .inl ⟨rfl, HO.out⟩⟩, rfl⟩
end
end Go.Proofs.YtbpihkojmbfccaaDoor
