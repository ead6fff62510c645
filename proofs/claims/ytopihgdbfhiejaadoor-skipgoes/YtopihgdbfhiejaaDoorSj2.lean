/-
  Asks; the law's pick, find, isKey.
-/
import Derived.Test.YtopihgdbfhiejaaDoorSh7
import Derived.Test.YtopihgdbfhiejaaDoorCOpen
set_option linter.unusedVariables false
set_option linter.unusedSimpArgs false
namespace Go.Proofs.YtopihgdbfhiejaaDoor
open Go.RowKit Go.Maps Go.Sort

theorem toList_inj {a b : ByteArray} (h : a.toList = b.toList) : a = b := by
  rw [ByteArray.toList_eq, ByteArray.toList_eq] at h
  cases a; cases b
  simp at h
  rw [h]
structure AskR where
  w : Int
  kind : Int
  key : ByteArray
  ref : Int
  h : Int
def AskR.cells (a : AskR) : List Value := [.int .i64 a.w, .int .i64 a.kind, .string a.key, .int .i64 a.ref, .int .i64 a.h]
def AskR.val (a : AskR) : Value := .agg #[.int .i64 a.w, .int .i64 a.kind, .string a.key, .int .i64 a.ref, .int .i64 a.h]
def AskR.ok (a : AskR) : Prop := I64 a.w ∧ I64 a.kind ∧ a.key.size ≤ maxLen ∧ I64 a.ref ∧ I64 a.h
theorem cellsSt9 : Tryd.prog.cellsOf 9 = 1 := by kernel_rfl
theorem cellsAsk : Tryd.prog.cellsOf 33 = 5 := by kernel_rfl

section
variable {H : Type} {enc : TypeId × Value → H} {W : World} {a : Option Addr} {len cap : Nat} {d : DataW H} {p : List MemPlace}
set_option maxRecDepth 100000 in
theorem ask_of {n : Nat} {cs : List Value} {y : DataW H × List MemPlace} (hl : cs.length = 5) (ht : DataW.trod enc Tryd.prog W 0 (fun _ => true) true n 33 cs = some y) : ∃ o : AskR, o.ok ∧ cs = o.cells := by
  obtain ⟨xs, m, _, _, _, hxl, hfs⟩ := DataW.trod_struct Tryd.underlying33 ht
  have hx4 : xs.length = 5 := hxl
  match cs, hl with
  | [c0, c1, c2, c3, c4], _ =>
    obtain ⟨y0, e0⟩ := some_at hx4 (i := 0) (by omega)
    obtain ⟨y1, e1⟩ := some_at hx4 (i := 1) (by omega)
    obtain ⟨y2, e2⟩ := some_at hx4 (i := 2) (by omega)
    obtain ⟨y3, e3⟩ := some_at hx4 (i := 3) (by omega)
    obtain ⟨y4, e4⟩ := some_at hx4 (i := 4) (by omega)
    have h0 := (field_at hfs 0 3 0 _ cellsInt rfl).trans e0
    have h1 := (field_at hfs 1 3 1 _ cellsInt rfl).trans e1
    have h2 := (field_at hfs 2 9 2 _ cellsSt9 rfl).trans e2
    have h3 := (field_at hfs 3 3 3 _ cellsInt rfl).trans e3
    have h4 := (field_at hfs 4 3 4 _ cellsInt rfl).trans e4
    dsimp only [List.drop, List.take] at h0 h1 h2 h3 h4
    obtain ⟨k0, q0, _, w0⟩ := DataW.trod_int Tryd.underlying3 h0
    obtain ⟨k1, q1, _, w1⟩ := DataW.trod_int Tryd.underlying3 h1
    obtain ⟨k2, q2, _, w2⟩ := DataW.trod_string Tryd.underlying9 h2
    obtain ⟨k3, q3, _, w3⟩ := DataW.trod_int Tryd.underlying3 h3
    obtain ⟨k4, q4, _, w4⟩ := DataW.trod_int Tryd.underlying3 h4
    simp only [List.cons.injEq, and_true] at q0 q1 q2 q3 q4
    subst q0 q1 q2 q3 q4
    exact ⟨⟨k0, k1, k2, k3, k4⟩, ⟨bounds_i64 w0, bounds_i64 w1, w2, bounds_i64 w3, bounds_i64 w4⟩, rfl⟩
theorem open_asks (h : DataW.Trod enc Tryd.prog W 0 (fun _ => true) true 22 (.slice a len cap) d p) : ∃ xs : List AskR, (∀ x ∈ xs, x.ok) ∧ Seq 5 AskR.cells W a len cap xs ∧ Long d len :=
  open_seq AskR.cells AskR.ok Tryd.underlying22 cellsAsk (by decide) (fun _ _ => rfl) (fun m cs y hl hy => ask_of hl hy) h
end

/-- A row of asks of one's own. -/
def Ar (w : World) (base : Nat) (v : Value) (l : List AskR) : Prop := w.ownsRow base 33 5 v l.length (l.flatMap AskR.cells)
theorem flat5 (l : List AskR) (i j : Nat) (x : AskR) (hi : l[i]? = some x) (hj : j < 5) : (l.flatMap AskR.cells)[i * 5 + j]? = x.cells[j]? := by
  induction l generalizing i with
  | nil => simp at hi
  | cons y ys ih =>
    rw [List.flatMap_cons]
    cases i with
    | zero =>
      simp at hi; subst hi
      rw [List.getElem?_append_left (by show 0 * 5 + j < 5; omega), Nat.zero_mul, Nat.zero_add]
    | succ i =>
      rw [List.getElem?_append_right (by show 5 ≤ _; omega)]
      rw [show (i + 1) * 5 + j - y.cells.length = i * 5 + j by show _ - 5 = _; omega]
      exact ih i (by simpa using hi)
theorem Ar.seq {w : World} {base : Nat} {v : Value} {l : List AskR} (h : Ar w base v l) : ∃ ao cap, v = .slice ao l.length cap ∧ Seq 5 AskR.cells w ao l.length cap l := by
  rcases h.2 with ⟨rfl, h0⟩ | ⟨g, cap, cur, rfl, hg, hh, hn, hm, hs, ht⟩
  · refine ⟨none, 0, by rw [h0], rfl, by omega, Nat.zero_le _, fun h => absurd h (by omega)⟩
  · refine ⟨_, cap, rfl, rfl, hn, hm, fun hl => ⟨g, 0, rfl, (Array.getElem?_eq_some_iff.1 hh).1, fun i x hi j u hu => ?_⟩⟩
    have hil := (List.getElem?_eq_some_iff.1 hi).1
    have hj : j < 5 := (List.getElem?_eq_some_iff.1 hu).1
    have hown : w.ownsRow base 33 5 (.slice (some ⟨g, 0, none⟩) l.length cap) l.length (l.flatMap AskR.cells) := h
    rw [Nat.zero_add, hown.cellAt (i * 5 + j) (by omega), flat5 l i j x hi hj]
    exact hu

section
variable {w : World}
/-- Where a key stands among asks. -/
def Fd (xs : List AskR) (k : ByteArray) (r : Int) : Prop :=
  (r = -1 ∧ ∀ a ∈ xs, a.key ≠ k) ∨ ∃ (i : Nat) (a : AskR), r = (i : Int) ∧ xs[i]? = some a ∧ a.key = k
set_option maxRecDepth 100000 in
set_option maxHeartbeats 2000000 in
theorem find_any {ao : Option Addr} {len cap : Nat} {xs : List AskR} (hs : Seq 5 AskR.cells w ao len cap xs) (k : ByteArray) :
    Calls Tryd.prog 16 #[.slice ao len cap, .string k] w fun e w' => (∃ r : Int, e = .returned (.int .i64 r) ∧ Fd xs k r) ∧ w' = w := by
  have hcap := hs.2.1
  have hmax := hs.2.2.1
  unfold maxLen at hmax
  go_enter Tryd.func16, Tryd.ntmps16
  go_wp2
  go_loop [5] (fun i => ∃ n : Nat, n ≤ len ∧ i = .int .i64 n ∧ Hid (∀ a ∈ xs.take n, a.key ≠ k)) (fun i => len - (intOf i).toNat)
  case atStart => exact ⟨0, by omega, rfl, hide2 (fun a ha => by simp at ha)⟩
  case round =>
    obtain ⟨n, hn, rfl, hno⟩ := hrel
    by_cases hl : n < len
    · obtain ⟨b, off, rfl, hbl, hcell⟩ := hs.2.2.2 (by omega)
      obtain ⟨a, ha⟩ := some_at hs.1 hl
      have q2 : w.cell? ⟨b, off + n * 5 + 2, none⟩ = some (.string a.key) := hcell n a ha 2 _ rfl
      have hl2 : (n : Int) < (len : Int) := by omega
      have hn2 : n < xs.length := by rw [hs.1]; exact hl
      have hat : xs[n] = a := by rw [List.getElem?_eq_getElem hn2] at ha; exact Option.some.inj ha
      have HE : Hid (xs.take (n + 1) = xs.take n ++ [a]) := hide2 (by rw [← List.take_append_getElem hn2, hat])
      have HA := hide2 ha
      by_cases hk : a.key = k
      · have e1 : (a.key.toList == k.toList) = true := by rw [hk]; simp
        have HK := hide2 hk
        clear hcell ha hat hk
        go_wp2
        go_ret
        exact ⟨⟨_, rfl, .inr ⟨n, a, rfl, HA.out, HK.out⟩⟩, rfl⟩
      · have e1 : (a.key.toList == k.toList) = false := by
          rw [beq_eq_false_iff_ne]; exact fun q => hk (toList_inj q)
        have HK := hide2 hk
        clear hcell ha hat hk
        go_wp2
        go_round
        case rel => exact ⟨n + 1, by omega, by go_num, hide2 (by rw [HE.out]; intro x hx; rcases List.mem_append.1 hx with h1 | h1; exact hno.out x h1; simp at h1; subst h1; exact HK.out)⟩
        case measure => simp [intOf]; omega
    · obtain rfl : n = len := by omega
      have HO : Hid (∀ a ∈ xs, a.key ≠ k) := hide2 (by
        have h := hno.out
        rw [show xs.take n = xs from by rw [← hs.1]; exact List.take_length] at h
        exact h)
      go_wp2
      go_ret
      exact ⟨⟨_, rfl, .inl ⟨rfl, HO.out⟩⟩, rfl⟩
theorem isKey_any (k : ByteArray) (hk : k.size ≤ maxLen) (w : World) : Calls Tryd.prog 18 #[.string k] w fun e w' => e = .returned (.bool (good k)) ∧ w' = w := by
  unfold good
  unfold maxLen at hk
  by_cases h1 : 1 ≤ k.size
  · by_cases h2 : k.size ≤ 16
    · have d1 : decide ((1 : Int) ≤ (k.size : Int)) = true := by simp; omega
      have d2 : decide ((k.size : Int) ≤ 16) = true := by simp; omega
      have e : (decide (1 ≤ k.size) && decide (k.size ≤ 16)) = true := by simp; omega
      rw [e]
      go_enter Tryd.func18, Tryd.ntmps18
      go_wp2
      go_ret
      exact ⟨rfl, rfl⟩
    · have d1 : decide ((1 : Int) ≤ (k.size : Int)) = true := by simp; omega
      have d2 : decide ((k.size : Int) ≤ 16) = false := by simp; omega
      have e : (decide (1 ≤ k.size) && decide (k.size ≤ 16)) = false := by simp; omega
      rw [e]
      go_enter Tryd.func18, Tryd.ntmps18
      go_wp2
      go_ret
      exact ⟨rfl, rfl⟩
  · have d1 : decide ((1 : Int) ≤ (k.size : Int)) = false := by simp; omega
    have e : (decide (1 ≤ k.size) && decide (k.size ≤ 16)) = false := by simp; omega
    rw [e]
    go_enter Tryd.func18, Tryd.ntmps18
    go_wp2
    go_ret
    exact ⟨rfl, rfl⟩


/-- Which of n things a raw number speaks of. -/
def pk (c : Int) (n : Nat) : Nat := ((if c < 0 then -(c + 1) else c) % (n : Int)).toNat
theorem pk_lt (c : Int) {n : Nat} (hn : 1 ≤ n) : pk c n < n := by
  unfold pk
  have h1 := Int.emod_lt_of_pos (if c < 0 then -(c + 1) else c) (b := (n : Int)) (by omega)
  have h2 := Int.emod_nonneg (if c < 0 then -(c + 1) else c) (b := (n : Int)) (by omega)
  omega
theorem pk_int (c : Int) {n : Nat} (hn : 1 ≤ n) : ((pk c n : Nat) : Int) = (if c < 0 then -(c + 1) else c).tmod (n : Int) := by
  have h2 := Int.emod_nonneg (if c < 0 then -(c + 1) else c) (b := (n : Int)) (by omega)
  rw [Int.tmod_eq_emod_of_nonneg (by split <;> omega)]
  unfold pk
  omega
set_option maxHeartbeats 2000000 in
theorem pick_any (c : Int) (hc : I64 c) (n : Nat) (hn : 1 ≤ n) (hn2 : n ≤ 1000) (w : World) : Calls Tryd.prog 12 #[.int .i64 c, .int .i64 (n : Int)] w fun e w' => e = .returned (.int .i64 ((pk c n : Nat) : Int)) ∧ w' = w := by
  have hlt := pk_lt c hn
  have hp := pk_int c hn
  have hn0 : ¬ n = 0 := by omega
  have hw : IntKind.i64.wrap ((pk c n : Nat) : Int) = ((pk c n : Nat) : Int) := by rw [IntKind.wrap_i64]; omega
  have hcI := hc
  unfold I64 at hcI
  by_cases h : c < 0
  · rw [if_pos h] at hp
    have e1 : IntKind.i64.wrap (c + 1) = c + 1 := by rw [IntKind.wrap_i64]; omega
    have e2 : IntKind.i64.wrap (-(c + 1)) = -(c + 1) := by rw [IntKind.wrap_i64]; omega
    generalize pk c n = P at hlt hp hw ⊢
    have hp2 := hp.symm
    have HC := hide2 hc
    clear hc hp
    go_enter Tryd.func12, Tryd.ntmps12
    go_wp2
    go_ret
    exact ⟨rfl, rfl⟩
  · rw [if_neg h] at hp
    generalize pk c n = P at hlt hp hw ⊢
    have hp2 := hp.symm
    have HC := hide2 hc
    clear hc hp
    go_enter Tryd.func12, Tryd.ntmps12
    go_wp2
    go_ret
    exact ⟨rfl, rfl⟩
end
end Go.Proofs.YtopihgdbfhiejaaDoor
