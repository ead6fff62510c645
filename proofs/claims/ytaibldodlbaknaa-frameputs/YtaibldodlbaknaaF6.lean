/-
  What holds and Take do.
-/
import Derived.Test.YtaibldodlbaknaaF5
set_option linter.unusedVariables false
set_option linter.unusedSimpArgs false
namespace Go.Proofs.Ytaibldodlbaknaa
open Go.RowKit

theorem zeros_step {ys : List Int} {k : Nat} (h : ys.take k = List.replicate k 0) (hk : k < ys.length) (h0 : ys.getD k 0 = 0) : ys.take (k + 1) = List.replicate (k + 1) 0 := by
  rw [List.take_succ_eq_append_getElem hk, h, List.replicate_succ']
  congr 2
  simpa [List.getD, List.getElem?_eq_getElem hk] using h0
theorem zeros_not {ys : List Int} {k m : Nat} (hk : k < ys.length) (h0 : ys.getD k 0 ≠ 0) : ys ≠ List.replicate m 0 := by
  intro e
  apply h0
  subst e
  simp only [List.getD, List.getElem?_replicate]
  split <;> rfl

set_option maxHeartbeats 1000000 in
/-- holds: nothing but noughts behind the end, and the right sum ahead of it? -/
theorem holds_any (ao : Option Addr) (len cap : Nat) (xs : List Int) (en : Nat) (w : World) (h : Sl w ao len cap xs) (h4 : 4 ≤ en) (hen : en ≤ len) :
    Calls Try.prog 26 #[.slice ao len cap, .int .i64 (en : Int)] w fun e w' => ∃ r : Bool, e = .returned (.bool r) ∧ (r = true ↔ xs.drop en = List.replicate (len - en) 0 ∧ Ends (xs.take en)) ∧ Below w.heap.size w w' := by
  have hx := h.1
  have hlen : (len : Int) ≤ 9223372036854775807 := by have := h.2.1; have := h.2.2.1; unfold maxLen at this; omega
  obtain ⟨a1, hs1, hsl1⟩ := h.from (P := Try.prog) 22 Try.underlying22 Try.size5 en hen
  obtain ⟨a2, hs2, hsl2⟩ := h.upto (P := Try.prog) 22 Try.underlying22 Try.size5 en hen
  have hmb : ((len - en : Nat) : Int) ≤ 9223372036854775807 := by omega
  generalize hm : len - en = m at *
  have hyl : (xs.drop en).length = m := hsl1.1
  generalize hy : xs.drop en = ys at *
  replace hm := hF hm
  replace hy := hF hy
  replace hsl2 := hF hsl2
  have hcell : Hid (∀ i, i < m → ∃ b off, a1 = some ⟨b, off, none⟩ ∧ w.cell? ⟨b, off + i, none⟩ = some (.int .u8 (ys.getD i 0))) := fun i hi => by
    obtain ⟨b, off, e1, _, hc⟩ := hsl1.2.2.2.2.2 (by omega)
    exact ⟨b, off, e1, hc i hi⟩
  clear hsl1 h
  go_enter Try.func26, Try.ntmps26
  go_wp2
  go_loop [6, 11] (fun _ i => ∃ k : Nat, k ≤ m ∧ i = .int .i64 (k : Int) ∧ Hid (ys.take k = List.replicate k 0)) (fun _ i => m - (intOf i).toNat)
  case atStart => exact ⟨0, by omega, rfl, rfl⟩
  case round =>
    obtain ⟨k, hk, rfl, HD⟩ := hrel
    by_cases hlt : k < m
    · have hlti : (k : Int) < (m : Int) := by omega
      obtain ⟨b, off, rfl, hc⟩ := hcell.out k hlt
      by_cases h0 : ys.getD k 0 = 0
      · have HD2 := hF (zeros_step HD.out (by omega) h0)
        rw [h0] at hc
        clear h0
        go_wp2
        go_round
        case rel => exact ⟨k + 1, by omega, by go_num, HD2⟩
        case measure => simp [intOf]; omega
      · have HN := hF (zeros_not (m := m) (by omega) h0)
        generalize ys.getD k 0 = y at *
        have h0b : (y == 0) = false := by simpa using h0
        have h0n : (y != 0) = true := by simpa using h0
        go_wp2
        go_ret
        exact .inl ⟨rfl, fun q => absurd q HN.out, Below.refl _ _⟩
    · have hlti : ¬ (k : Int) < (m : Int) := by omega
      have HZ : Hid (ys = List.replicate m 0) := by
        have := HD.out
        rw [List.take_of_length_le (by omega), show k = m from by omega] at this
        exact this
      go_wp2_with fail
      refine (endsInSum_any a2 en cap _ w hsl2.out h4).mono ?_
      rintro e w2 ⟨r, rfl, hr, hb2⟩
      replace hr := hF hr
      go_wp2
      go_ret
      exact ⟨_, rfl, by rw [hr.out]; exact ⟨fun q => ⟨HZ.out, q⟩, fun q => q.2⟩, hb2⟩

/-- The answer's place and frame, if there is one. -/
def takA (xs : List Int) (at_ : Int) : Option (Nat × List Int) := if 0 ≤ at_ ∧ at_ < (xs.length : Int) ∧ at_ % 32 = 0 then tak (xs.drop at_.toNat) else none

/-- A body that was handed out: its bytes lie in a block of their own. -/
def Bd (w : World) (base g : Nat) (v : Value) (body : List Int) : Prop :=
  base ≤ g ∧ (∃ cur, w.heap[g]? = some (.cells cur 5 (0, 0))) ∧ ∃ ao c, v = .slice ao body.length c ∧ Sl w ao body.length c body ∧ ∀ b off, ao = some ⟨b, off, none⟩ → b = g

theorem Bd.drewN {w : World} {base g : Nat} {v : Value} {body : List Int} (h : Bd w base g v body) (q : Nat) : Bd (w.drewN q) base g v body := by
  obtain ⟨b1, ⟨cur, b2⟩, ao3, c3, b3, b4, b5⟩ := h
  exact ⟨b1, ⟨cur, b2⟩, ao3, c3, b3, b4.drewN q, b5⟩

theorem Sl.shrink {w : World} {ao : Option Addr} {len cap : Nat} {xs : List Int} (h : Sl w ao len cap xs) (k : Nat) (hk : k ≤ len) : Sl w ao k k (xs.take k) := by
  obtain ⟨h1, h2, h3, h4, h5, h6⟩ := h
  refine ⟨by simp; omega, Nat.le_refl _, by omega, h4.take _, fun e => ?_, fun hl => ?_⟩
  · have := (h5 e).1
    omega
  · obtain ⟨b, off, e, hlt, hc⟩ := h6 (by omega)
    refine ⟨b, off, e, hlt, fun i hi => ?_⟩
    rw [hc i (by omega)]
    simp only [List.getD, List.getElem?_take_of_lt hi]

theorem sliced_block (g o l k c s : Nat) (ao : Option Addr) (h : Go.sliced (some ⟨g, o, none⟩) l k c s = .slice ao (k - l) (c - l)) (b off : Nat) (e : ao = some ⟨b, off, none⟩) : b = g := by
  unfold Go.sliced at h
  simp only [Value.slice.injEq, and_true] at h
  subst e
  split at h
  · simp at h
    exact h.1.symm
  · simp [addr_add] at h
    exact h.1.symm

/-- The body within a frame's pieces. -/
theorem Own.body {w : World} {base : Nat} {v : Value} {s : List Int} (h : Own w base v s) (hb : Byt s) (n : Nat) (hn : n + 16 ≤ s.length) :
    ∃ g c ao, v = .slice (some ⟨g, 0, none⟩) s.length c ∧ s.length ≤ c ∧ c ≤ maxLen ∧ Go.sliced (some ⟨g, 0, none⟩) 16 (n + 16) (n + 16) 1 = .slice ao n n ∧ Bd w base g (.slice ao n n) ((s.drop 16).take n) ∧ Sl w (some ⟨g, 0, none⟩) s.length c s := by
  obtain ⟨ao0, c0, hv, hsl, _⟩ := h.sl hb
  rcases h.2 with ⟨_, h0⟩ | ⟨g, cap, cur, rfl, hg, hh, hn1, hm, hs, ht⟩
  · omega
  · simp only [Value.slice.injEq, true_and] at hv
    obtain ⟨rfl, rfl⟩ := hv
    obtain ⟨ao, e, s2⟩ := (hsl.shrink (n + 16) hn).sliced 16 (n + 16) (by omega) (Nat.le_refl _)
    have hbk := sliced_block g 0 16 (n + 16) (n + 16) 1 ao e
    rw [show n + 16 - 16 = n from by omega] at e s2
    have el : ((s.drop 16).take n).length = n := by simp; omega
    refine ⟨g, cap, ao, rfl, hn1, hm, e, ⟨hg, ⟨cur, hh⟩, ao, n, by rw [el], ?_, hbk⟩, hsl⟩
    rw [el]
    rw [List.take_take, Nat.min_self, List.drop_take, show n + 16 - 16 = n from by omega] at s2
    exact s2

theorem results_tmp4 {fn : Func} {t u v z : Tmp} (h : fn.results = #[.tmp t, .tmp u, .tmp v, .tmp z]) (tmps : Array Value) (P : Program) (w : World) :
    (results fn tmps).run P w = .ok (.tuple #[tmps.getD t undef, tmps.getD u undef, tmps.getD v undef, tmps.getD z undef]) w := by
  simp [results, h]

/-- What Take answers. -/
def TkR (w : World) (xs : List Int) (at_ : Int) (e : Ending) (w' : World) : Prop :=
  (∃ seq body v g, takA xs at_ = some (seq, body) ∧ e = .returned (.tuple #[.int .u64 ((seq : Nat) : Int), v, .int .i64 (at_ + ((32 * nb body.length : Nat) : Int)), .bool true]) ∧ Bd w' w.heap.size g v body) ∨
  (takA xs at_ = none ∧ e = .returned (.tuple #[.int .u64 0, .slice none 0 0, .int .i64 0, .bool false]))

theorem good_iff (x : List Int) : Good x ↔ Head x ∧ ((sOf x).drop (nOf x + 20) = List.replicate (31 * nb (nOf x) - (nOf x + 20)) 0 ∧ Ends ((sOf x).take (nOf x + 20))) :=
  ⟨fun ⟨a, b, c, d, e, f⟩ => ⟨⟨a, b, c, d⟩, e, f⟩, fun ⟨⟨a, b, c, d⟩, e, f⟩ => ⟨a, b, c, d, e, f⟩⟩

set_option maxHeartbeats 2000000 in
theorem take_any (ao : Option Addr) (len cap : Nat) (xs : List Int) (at_ : Int) (w : World) (h : Sl w ao len cap xs) (hlb : len ≤ 140737488355328) :
    Calls Try.prog 15 #[.slice ao len cap, .int .i64 at_] w fun e w' => TkR w xs at_ e w' ∧ Below w.heap.size w w' := by
  have hx := h.1
  by_cases hn : at_ < 0
  · have ht : Hid (takA xs at_ = none) := by unfold Hid takA; rw [if_neg (by omega)]
    have hd : decide (at_ < 0) = true := by simpa using hn
    go_enter Try.func15, Try.ntmps15
    go_wp2
    try simp only [Exit.inBlock, Exit.then]
    refine bodyPost_ret (results_tmp4 rfl _ _ _) rfl ?_
    exact ⟨.inr ⟨ht.out, rfl⟩, Below.refl _ _⟩
  obtain ⟨a, rfl⟩ : ∃ a : Nat, at_ = (a : Int) := ⟨at_.toNat, by omega⟩
  have hd1 : decide ((a : Int) < 0) = false := by simp
  by_cases hg : len ≤ a
  · have ht : Hid (takA xs a = none) := by unfold Hid takA; rw [if_neg (by omega)]
    have hgi : (len : Int) ≤ (a : Int) := by omega
    have hd2 : decide ((len : Int) ≤ (a : Int)) = true := by simp; omega
    have hd3 : decide (len ≤ a) = true := by simp; omega
    go_enter Try.func15, Try.ntmps15
    go_wp2
    try simp only [Exit.inBlock, Exit.then]
    refine bodyPost_ret (results_tmp4 rfl _ _ _) rfl ?_
    exact ⟨.inr ⟨ht.out, rfl⟩, Below.refl _ _⟩
  have hgi : ¬ (len : Int) ≤ (a : Int) := by omega
  have hd2 : decide ((len : Int) ≤ (a : Int)) = false := by simp; omega
  have hd3 : decide (len ≤ a) = false := by simp; omega
  have ha64 : (a : Int) ≤ 140737488355328 := by omega
  by_cases hr : (a : Int) % 32 = 0
  · have hr1 : ((a : Int) % 32 == 0) = true := by simpa using hr
    have hr2 : ((a : Int) % 32 != 0) = false := by simpa using hr
    have hta : Hid (takA xs a = tak (xs.drop a)) := by unfold Hid takA; rw [if_pos (by omega)]; rfl
    obtain ⟨a1, hs1, hsl1⟩ := h.from (P := Try.prog) 22 Try.underlying22 Try.size5 a (by omega)
    have hbx := hsl1.2.2.2.1
    clear h
    go_enter Try.func15, Try.ntmps15
    go_wp2_with fail
    refine (joined_any a1 (len - a) (cap - a) (xs.drop a) w hsl1).mono ?_
    rintro e w1 ⟨hb1, hres⟩
    have HG := hF (good_iff (xs.drop a))
    generalize xs.drop a = x at *
    rcases hres with ⟨hH, v, rfl, hown⟩ | ⟨hH, rfl⟩
    · have hn1 := hH.1
      have hge := nb_ge (nOf x)
      have hlt := nb_lt (nOf x)
      have hsl : (sOf x).length = 31 * nb (nOf x) := pcs_len _ _ hH.2.1
      have hsb : Byt (sOf x) := pcs_byt _ _ hbx
      obtain ⟨g, c, ao2, rfl, hlc, hcm, hsli, hbd, hsls⟩ := hown.body hsb (nOf x) (by omega)
      rw [hsl] at hlc hsls ⊢
      have he0 : ¬ ((nOf x + 20 : Nat) : Int) = 0 := by omega
      have he1 : (((nOf x + 20 : Nat) : Int) == 0) = false := by simpa using he0
      clear hs1 hsl1 hown
      have hbody : Hid (bodyOf x = ((sOf x).drop 16).take (nOf x)) := rfl
      have hseq : Hid (seqOf x = va ((sOf x).take 8)) := rfl
      go_wp2_with fail
      refine (holds_any (some ⟨g, 0, none⟩) (31 * nb (nOf x)) c (sOf x) (nOf x + 20) w1 hsls (by omega) (by omega)).mono ?_
      rintro e w2 ⟨r, rfl, hr3, hb2⟩
      have hb02 : Below w.heap.size w w2 := hb1.trans (hb2.mono hb1.size)
      cases r with
      | false =>
        have ht : Hid (takA xs a = none) := by
          unfold Hid
          rw [hta.out]
          exact tak_bad hbx fun hg => by simpa using hr3.2 (HG.out.1 hg).2
        clear HG hr3
        go_wp2
        try simp only [Exit.inBlock, Exit.then]
        refine bodyPost_ret (results_tmp4 rfl _ _ _) rfl ?_
        exact ⟨.inr ⟨ht.out, rfl⟩, hb02⟩
      | true =>
        have ht : Hid (takA xs a = some (seqOf x, bodyOf x)) := by
          unfold Hid
          rw [hta.out]
          exact tak_good hbx (HG.out.2 ⟨hH, hr3.1 rfl⟩)
        have hsls2 := hsls.below hb2
        obtain ⟨a8, hs8, hsl8⟩ := hsls2.upto (P := Try.prog) 22 Try.underlying22 Try.size5 8 (by omega)
        replace hs8 : ∀ u : World, (Instr.slice 22 (.slice (some ⟨g, 0, none⟩) (31 * nb (nOf x)) c) none (some (.int .i64 8)) none).run Try.prog u = .ok (.slice a8 8 c) u := hs8
        have hlow : ∀ q, Calls Try.prog 27 #[.slice a8 8 c] (w2.drewN q) fun e w' => e = .returned (.int .u64 ((va ((sOf x).take 8) : Nat) : Int)) ∧ w' = w2.drewN q := fun q => lowFirst_any a8 8 c _ _ (hsl8.drewN q) (by omega)
        have hblk : ∀ q, Calls Try.prog 22 #[.int .i64 ((nOf x : Int) + 20)] (w2.drewN q) fun e w' => e = .returned (.int .i64 ((nb (nOf x) : Nat) : Int)) ∧ w' = w2.drewN q := fun q => blocksOf_any (nOf x + 20) _ (by omega)
        have hs16 : ∀ u : World, (Instr.slice 22 (.slice (some ⟨g, 0, none⟩) (31 * nb (nOf x)) c) (some (.int .i64 16)) (some (.int .i64 ((nOf x : Int) + 20 - 4))) (some (.int .i64 ((nOf x : Int) + 20 - 4)))).run Try.prog u = .ok (.slice ao2 (nOf x) (nOf x)) u := by
          intro u
          have ht' : Try.prog.underlying 22 = some (.slice (Try.prog.elem 22)) := by simp [Program.elem, Try.underlying22]
          have he : Try.prog.elem 22 = 5 := by simp [Program.elem, Try.underlying22]
          rw [run_slice_lhm u 22 (some ⟨g, 0, none⟩) (31 * nb (nOf x)) c ht' .i64 .i64 .i64 16 _ _ (by omega) (by omega) (by omega) (by omega), he, Try.size5]
          simp only [Result.andThen]
          rw [show ((nOf x : Int) + 20 - 4).toNat = nOf x + 16 from by omega, show (16 : Int).toNat = 16 from rfl, hsli]
        have hbd2 : Bd w2 w.heap.size g (.slice ao2 (nOf x) (nOf x)) (bodyOf x) := by
          obtain ⟨b1, ⟨cur, b2⟩, ao3, c3, b3, b4, b5⟩ := hbd
          rw [hbody.out]
          have hgl : g < w1.heap.size := (Array.getElem?_eq_some_iff.1 b2).1
          exact ⟨b1, ⟨cur, (hb2.block g hgl).trans b2⟩, ao3, c3, b3, b4.below hb2, b5⟩
        have hbl : Hid ((bodyOf x).length = nOf x) := bodyOf_len hH.2.1
        have hK : nb (nOf x) ≤ 3000 := by omega
        clear HG hr3 hsl8 hsls hsls2 hsli hbd hb1 hb2 hH hbody
        generalize va ((sOf x).take 8) = S at *
        generalize hnn : nOf x = n at *
        generalize hkk : nb n = K at *
        replace hnn := hF hnn
        replace hkk := hF hkk
        go_wp2
        go_quiet (first
          | (go_at_call 27; refine Calls.quiet_of_same (hlow _))
          | (go_at_call 22; refine Calls.quiet_of_same (hblk _)))
        go_wp2
        try simp only [Exit.inBlock, Exit.then]
        refine bodyPost_ret (results_tmp4 rfl _ _ _) rfl ?_
        have e1 : (a : Int) + (K : Int) * 32 = (a : Int) + ((32 * nb (bodyOf x).length : Nat) : Int) := by rw [hbl.out, hkk.out]; omega
        refine ⟨.inl ⟨seqOf x, bodyOf x, .slice ao2 n n, g, ht.out, ?_, hbd2.drewN _⟩, below_drewN hb02 _⟩
        show Ending.returned (.tuple #[.int .u64 (S : Int), .slice ao2 n n, .int .i64 ((a : Int) + (K : Int) * 32), .bool true]) = _
        rw [e1, hseq.out]
    · have ht : Hid (takA xs a = none) := by
        unfold Hid
        rw [hta.out]
        exact tak_bad hbx fun hg => hH (HG.out.1 hg).1
      clear hs1 hsl1 HG
      go_wp2
      try simp only [Exit.inBlock, Exit.then]
      refine bodyPost_ret (results_tmp4 rfl _ _ _) rfl ?_
      exact ⟨.inr ⟨ht.out, rfl⟩, hb1⟩
  · have ht : Hid (takA xs a = none) := by unfold Hid takA; rw [if_neg (by omega)]
    have hr1 : ((a : Int) % 32 == 0) = false := by simpa using hr
    have hr2 : ((a : Int) % 32 != 0) = true := by simpa using hr
    go_enter Try.func15, Try.ntmps15
    go_wp2
    try simp only [Exit.inBlock, Exit.then]
    refine bodyPost_ret (results_tmp4 rfl _ _ _) rfl ?_
    exact ⟨.inr ⟨ht.out, rfl⟩, Below.refl _ _⟩
end Go.Proofs.Ytaibldodlbaknaa
