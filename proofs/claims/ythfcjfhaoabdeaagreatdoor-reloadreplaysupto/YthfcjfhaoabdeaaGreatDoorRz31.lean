/-
  Frames one behind the other: plain mathematics, and a slice of bodies in memory.
-/
import Derived.Test.YthfcjfhaoabdeaaGreatDoorRz30
import Derived.Maps.AppendAt
set_option linter.unusedVariables false
set_option linter.unusedSimpArgs false
namespace Go.Proofs.YthfcjfhaoabdeaaGreatDoor
open Go.RowKit

/-- Where one is, and which number is looked for, behind frames with these bodies. -/
def goes (xs : List Int) : List (List Int) → Nat → Nat → Option (Nat × Nat)
  | [], a, f => some (a, f)
  | b :: bs, a, f => if takA xs (a : Int) = some (f, b) then goes xs bs (a + 32 * nb b.length) ((f + 1) % 18446744073709551616) else none

theorem goes_snoc (xs : List Int) : ∀ (bs : List (List Int)) (b : List Int) (a f p q : Nat), goes xs bs a f = some (p, q) → takA xs (p : Int) = some (q, b) → goes xs (bs ++ [b]) a f = some (p + 32 * nb b.length, (q + 1) % 18446744073709551616)
  | [], b, a, f, p, q, h, ht => by
    simp only [goes, Option.some.injEq, Prod.mk.injEq] at h
    obtain ⟨rfl, rfl⟩ := h
    simp [goes, ht]
  | c :: cs, b, a, f, p, q, h, ht => by
    simp only [goes] at h
    split at h
    · rename_i hc
      simp only [List.cons_append, goes, hc, if_true]
      exact goes_snoc xs cs b _ _ p q h ht
    · cases h

theorem goes_det (xs : List Int) : ∀ (bs cs : List (List Int)) (a f p q p' q' : Nat), goes xs bs a f = some (p, q) → goes xs cs a f = some (p', q') → (∀ b, takA xs (p : Int) ≠ some (q, b)) → (∀ b, takA xs (p' : Int) ≠ some (q', b)) → bs = cs ∧ p = p' ∧ q = q'
  | [], [], a, f, p, q, p', q', h, k, _, _ => by
    simp only [goes, Option.some.injEq, Prod.mk.injEq] at h k
    exact ⟨rfl, h.1 ▸ k.1, h.2 ▸ k.2⟩
  | [], c :: cs, a, f, p, q, p', q', h, k, hs, _ => by
    simp only [goes, Option.some.injEq, Prod.mk.injEq] at h k
    obtain ⟨rfl, rfl⟩ := h
    split at k
    · rename_i hc
      exact absurd hc (hs c)
    · cases k
  | b :: bs, [], a, f, p, q, p', q', h, k, _, hs => by
    simp only [goes, Option.some.injEq, Prod.mk.injEq] at h k
    obtain ⟨rfl, rfl⟩ := k
    split at h
    · rename_i hc
      exact absurd hc (hs b)
    · cases h
  | b :: bs, c :: cs, a, f, p, q, p', q', h, k, h1, h2 => by
    simp only [goes] at h k
    split at h
    · rename_i hb
      split at k
      · rename_i hc
        rw [hb] at hc
        simp only [Option.some.injEq, Prod.mk.injEq, true_and] at hc
        subst hc
        obtain ⟨e1, e2, e3⟩ := goes_det xs bs cs _ _ p q p' q' h k h1 h2
        exact ⟨by rw [e1], e2, e3⟩
      · cases k
    · cases h

theorem takA_some {xs : List Int} (hb : Byt xs) {a : Nat} {seq : Nat} {body : List Int} (h : takA xs (a : Int) = some (seq, body)) :
    a < xs.length ∧ a % 32 = 0 ∧ tak (xs.drop a) = some (seq, body) ∧ a + 32 * nb body.length ≤ xs.length ∧ seq < 18446744073709551616 ∧ Byt body ∧ body.length ≤ 65536 := by
  unfold takA at h
  split at h
  · rename_i hc
    rw [Int.toNat_natCast] at h
    obtain ⟨h1, h2, h3, h4, h5, _⟩ := tak_some (hb.drop a) h
    rw [List.length_drop] at h5
    exact ⟨by omega, by omega, h, by omega, h1, h2, h3⟩
  · cases h

theorem goes_le {xs : List Int} (hb : Byt xs) : ∀ (bs : List (List Int)) (a f p q : Nat), goes xs bs a f = some (p, q) → a ≤ xs.length → a % 32 = 0 → f < 18446744073709551616 → p ≤ xs.length ∧ a + 32 * bs.length ≤ p ∧ q < 18446744073709551616 ∧ p % 32 = 0
  | [], a, f, p, q, h, ha, h32, hf => by
    simp only [goes, Option.some.injEq, Prod.mk.injEq] at h
    obtain ⟨rfl, rfl⟩ := h
    exact ⟨ha, by simp, hf, h32⟩
  | b :: bs, a, f, p, q, h, ha, h32, hf => by
    simp only [goes] at h
    split at h
    · rename_i hc
      obtain ⟨h1, h2, h3, h4, _⟩ := takA_some hb hc
      have hp := nb_pos b.length
      obtain ⟨i1, i2, i3, i4⟩ := goes_le hb bs _ _ p q h h4 (by omega) (by omega)
      exact ⟨i1, by simp only [List.length_cons]; omega, i3, i4⟩
    · cases h

/-- A frame from a place on, with a number that is not below. -/
def Late (xs : List Int) (a least : Nat) : Prop := ∃ i seq body, takA xs ((a + 32 * i : Nat) : Int) = some (seq, body) ∧ least ≤ seq

/-- A slice of bodies, each in a block of its own. -/
def Bs (w : World) (base : Nat) (v : Value) (bs : List (List Int)) : Prop :=
  ∃ (cs : List Value) (G : Nat → Nat), w.ownsRow base 82 1 v bs.length cs ∧ (∀ i, i < bs.length → ∃ u, cs[i]? = some u ∧ Bd w base (G i) u (bs.getD i [])) ∧ ∀ i j, i < j → j < bs.length → G i < G j

theorem Bs.nil (w : World) (base : Nat) : Bs w base (.slice none 0 0) [] :=
  ⟨[], fun _ => 0, World.ownsRow_nil _ _ _ _, fun i hi => absurd hi (by simp), fun i j _ hj => absurd hj (by simp)⟩

theorem Bd.lt {w : World} {base g : Nat} {v : Value} {body : List Int} (h : Bd w base g v body) : g < w.heap.size := by
  obtain ⟨_, ⟨cur, b2⟩, _⟩ := h
  exact (Array.getElem?_eq_some_iff.1 b2).1
theorem Bd.below {w w' : World} {base g : Nat} {v : Value} {body : List Int} (h : Bd w base g v body) (hb : Below w.heap.size w w') : Bd w' base g v body := by
  have hl := h.lt
  obtain ⟨b1, ⟨cur, b2⟩, ao3, c3, b3, b4, b5⟩ := h
  exact ⟨b1, ⟨cur, (hb.block g hl).trans b2⟩, ao3, c3, b3, b4.below hb, b5⟩
theorem Bd.weak {w : World} {base base' g : Nat} {v : Value} {body : List Int} (h : Bd w base g v body) (hb : base' ≤ base) : Bd w base' g v body := by
  obtain ⟨b1, h2⟩ := h
  exact ⟨by omega, h2⟩
theorem Sl.grownS {w w' : World} {row : Option Nat} {ao : Option Addr} {len cap : Nat} {xs : List Int} (h : Sl w ao len cap xs) (hg : w.grownBy w' row) (hne : ∀ b off, ao = some ⟨b, off, none⟩ → some b ≠ row) : Sl w' ao len cap xs := by
  obtain ⟨h1, h2, h3, h4, h5, h6⟩ := h
  refine ⟨h1, h2, h3, h4, h5, fun hl => ?_⟩
  obtain ⟨b, off, e, hlt, hc⟩ := h6 hl
  refine ⟨b, off, e, Nat.lt_of_lt_of_le hlt hg.size, fun i hi => ?_⟩
  exact (World.cell?_of_block (hg.block b hlt (hne b off e))).trans (hc i hi)
theorem Bd.grown {w w' : World} {row : Option Nat} {base g : Nat} {v : Value} {body : List Int} (h : Bd w base g v body) (hg : w.grownBy w' row) (hne : some g ≠ row) : Bd w' base g v body := by
  have hl := h.lt
  obtain ⟨b1, ⟨cur, b2⟩, ao3, c3, b3, b4, b5⟩ := h
  exact ⟨b1, ⟨cur, (hg.block g hl hne).trans b2⟩, ao3, c3, b3, b4.grownS hg (fun b off e => by rw [b5 b off e]; exact hne), b5⟩
/-- The row of bodies is no body's block. -/
theorem row_ne {w : World} {base base' n g : Nat} {v u : Value} {cs : List Value} {body : List Int} (h : w.ownsRow base 82 1 v n cs) (hb : Bd w base' g u body) : some g ≠ v.ownBlock := by
  intro e
  rcases h.2 with ⟨rfl, _⟩ | ⟨g', cap, cur, rfl, _, hh, _⟩
  · cases e
  · simp only [Value.ownBlock, Option.some.injEq] at e
    subst e
    obtain ⟨_, ⟨cur2, b2⟩, _⟩ := hb
    rw [hh] at b2
    simp at b2
theorem row_up {w w' : World} {base n : Nat} {v : Value} {cs : List Value} (h : w.ownsRow base 82 1 v n cs) (hb : Below w.heap.size w w') : w'.ownsRow base 82 1 v n cs := by
  refine World.ownsRow.kept h (row := none) ⟨hb.os, hb.tape, hb.output, hb.size, fun k hk _ => hb.block k hk⟩ ?_
  cases hv : v.ownBlock <;> simp
theorem Bs.below {w w' : World} {base : Nat} {v : Value} {bs : List (List Int)} (h : Bs w base v bs) (hb : Below w.heap.size w w') : Bs w' base v bs := by
  obtain ⟨cs, G, h1, h2, h3⟩ := h
  refine ⟨cs, G, row_up h1 hb, fun i hi => ?_, h3⟩
  obtain ⟨u, e, hd⟩ := h2 i hi
  exact ⟨u, e, hd.below hb⟩
/-- A body put behind the others. -/
theorem Bs.push {w w' : World} {base g : Nat} {v v' u : Value} {bs : List (List Int)} {b : List Int} {cs : List Value} {G : Nat → Nat} (h2 : ∀ i, i < bs.length → ∃ u, cs[i]? = some u ∧ Bd w base (G i) u (bs.getD i [])) (h3 : ∀ i j, i < j → j < bs.length → G i < G j) (h1 : w.ownsRow base 82 1 v bs.length cs)
    (hd : Bd w base g u b) (hg : ∀ i, i < bs.length → G i < g) (hgr : w.grownBy w' v.ownBlock) (hr : w'.ownsRow base 82 1 v' (bs.length + 1) (cs ++ [u])) : Bs w' base v' (bs ++ [b]) := by
  have hcl : cs.length = bs.length := by have := h1.1; omega
  refine ⟨cs ++ [u], fun i => if i < bs.length then G i else g, by simpa using hr, fun i hi => ?_, fun i j hij hj => ?_⟩
  · by_cases hlt : i < bs.length
    · obtain ⟨u', e, hd'⟩ := h2 i hlt
      refine ⟨u', by rw [List.getElem?_append_left (by omega)]; exact e, ?_⟩
      simp only [hlt, if_true]
      have e2 : (bs ++ [b]).getD i [] = bs.getD i [] := by simp [List.getD, List.getElem?_append_left hlt]
      rw [e2]
      exact hd'.grown hgr (row_ne h1 hd')
    · have hi2 : i = bs.length := by simp at hi; omega
      subst hi2
      refine ⟨u, by rw [List.getElem?_append_right (by omega), hcl]; simp, ?_⟩
      simp only [Nat.lt_irrefl, if_false]
      have e2 : (bs ++ [b]).getD bs.length [] = b := by simp [List.getD]
      rw [e2]
      exact hd.grown hgr (row_ne h1 hd)
  · simp at hj
    simp only []
    by_cases hlt : j < bs.length
    · rw [if_pos (by omega), if_pos hlt]
      exact h3 i j hij hlt
    · rw [if_pos (by omega), if_neg hlt]
      exact hg i (by omega)
end Go.Proofs.YthfcjfhaoabdeaaGreatDoor

/-
  Frames laid one behind the other: plain mathematics.
-/
set_option linter.unusedVariables false
set_option linter.unusedSimpArgs false
namespace Go.Proofs.YthfcjfhaoabdeaaGreatDoor
open Go.RowKit

/-- Bodies as frames, numbered from a number on. -/
def fras : Nat → List (List Int) → List Int
  | _, [] => []
  | f, b :: bs => fra f b ++ fras ((f + 1) % 18446744073709551616) bs
/-- Bodies that may be framed. -/
def Okb (bs : List (List Int)) : Prop := ∀ b ∈ bs, b.length ≤ 65536 ∧ Byt b
theorem Okb.tail {b : List Int} {bs : List (List Int)} (h : Okb (b :: bs)) : Okb bs := fun c hc => h c (List.mem_cons_of_mem _ hc)
theorem Okb.head {b : List Int} {bs : List (List Int)} (h : Okb (b :: bs)) : b.length ≤ 65536 ∧ Byt b := h b (List.mem_cons_self ..)
theorem Okb.take {bs : List (List Int)} (h : Okb bs) (k : Nat) : Okb (bs.take k) := fun c hc => h c (List.mem_of_mem_take hc)
theorem fras_byt : ∀ (f : Nat) (bs : List (List Int)), Okb bs → Byt (fras f bs)
  | _, [], _ => Byt.nil
  | f, b :: bs, h => (fra_byt f h.head.2).append (fras_byt _ bs h.tail)
/-- How many bytes frames of such bodies have. -/
def eo : List (List Int) → Nat
  | [] => 0
  | b :: bs => 32 * nb b.length + eo bs
theorem fras_len : ∀ (f : Nat) (bs : List (List Int)), (fras f bs).length = eo bs
  | _, [] => rfl
  | f, b :: bs => by simp only [fras, List.length_append, fra_len, fras_len _ bs, eo]
theorem eo_bound : ∀ (bs : List (List Int)), Okb bs → eo bs ≤ 70000 * bs.length
  | [], _ => by simp [eo]
  | b :: bs, h => by
    have h1 := eo_bound bs h.tail
    have h2 := nb_lt b.length
    have h3 := h.head.1
    simp only [eo, List.length_cons]
    omega
theorem fras_snoc : ∀ (f : Nat) (bs : List (List Int)) (b : List Int), f < 18446744073709551616 → fras f (bs ++ [b]) = fras f bs ++ fra ((f + bs.length) % 18446744073709551616) b
  | f, [], b, h => by simp [fras, Nat.mod_eq_of_lt h]
  | f, c :: bs, b, h => by
    simp only [List.cons_append, fras, fras_snoc _ bs b (Nat.mod_lt _ (by decide)), List.append_assoc, List.length_cons]
    rw [show ((f + 1) % 18446744073709551616 + bs.length) % 18446744073709551616 = (f + (bs.length + 1)) % 18446744073709551616 from by omega]

end Go.Proofs.YthfcjfhaoabdeaaGreatDoor

/-
  What standsFrom and All do.
-/
set_option linter.unusedVariables false
set_option linter.unusedSimpArgs false
namespace Go.Proofs.YthfcjfhaoabdeaaGreatDoor
open Go.RowKit

theorem Tryz.info22 : (Tryz.prog.info? 82).map (fun i => (i.zero, i.size, i.bytes)) = some (some (.slice none 0 0), 1, 24) := by kernel_rfl

set_option maxHeartbeats 2000000 in
/-- standsFrom: is there, from a place on, a frame whose number is not below? -/
theorem standsFrom_any (ao : Option Addr) (len cap : Nat) (xs : List Int) (a least : Nat) (w : World) (h : Sl w ao len cap xs) (hl : len ≤ 140737488355328) (ha : a ≤ len) (hs : least < 18446744073709551616) :
    Calls Tryz.prog 174 #[.slice ao len cap, .int .i64 (a : Int), .int .u64 (least : Int)] w fun e w' => ∃ r : Bool, e = .returned (.bool r) ∧ (r = true ↔ Late xs a least) ∧ Below w.heap.size w w' := by
  have hx := h.1
  have hbyt := h.2.2.2.1
  go_enter Tryz.func174, Tryz.ntmps174
  go_wp2
  go_loopw [1, 7, 8, 9, 10] (fun i _ _ _ _ wr => ∃ k : Nat, a + 32 * k ≤ len + 32 ∧ i = .int .i64 ((a + 32 * k : Nat) : Int) ∧ Hid (∀ j, j < k → ∀ seq body, takA xs ((a + 32 * j : Nat) : Int) = some (seq, body) → seq < least) ∧ Below w.heap.size w wr) (fun i _ _ _ _ _ => len + 64 - (intOf i).toNat)
  case atStart => exact ⟨0, by omega, by simp, (fun j hj => by omega), Below.refl _ _⟩
  case round =>
    obtain ⟨k, hk, rfl, HD, hbel⟩ := hrel
    by_cases hlt : a + 32 * k < len
    · have hlti : ((a + 32 * k : Nat) : Int) < (len : Int) := by omega
      have hw := h.below hbel
      generalize hA : a + 32 * k = A at *
      replace hA := hF hA
      go_wp2_with fail
      refine (ftake_any ao len cap xs (A : Int) wr hw hl).mono ?_
      rintro e w1 ⟨hres, hb1⟩
      have hb01 : Below w.heap.size w w1 := hbel.trans (hb1.mono hbel.size)
      rcases hres with ⟨seq, body, v, g, ht, rfl, hbd⟩ | ⟨ht, rfl⟩
      · by_cases hge : least ≤ seq
        · have HL : Hid (Late xs a least) := ⟨k, seq, body, by rw [hA.out]; exact ht, hge⟩
          have hgi : (least : Int) ≤ (seq : Int) := by omega
          have hgd : decide ((least : Int) ≤ (seq : Int)) = true := by simp; omega
          have hgd2 : decide (least ≤ seq) = true := by simp; omega
          clear ht hbd hb1 hw hbel
          go_wp2
          go_ret
          first
            | exact .inr ⟨rfl, HL.out, hb01⟩
            | exact ⟨true, rfl, ⟨fun _ => HL.out, fun _ => rfl⟩, hb01⟩
        · have HD2 : Hid (∀ j, j < k + 1 → ∀ seq body, takA xs ((a + 32 * j : Nat) : Int) = some (seq, body) → seq < least) := by
            intro j hj s b hsb
            by_cases hjk : j < k
            · exact HD.out j hjk s b hsb
            · obtain rfl : j = k := by omega
              rw [hA.out, ht] at hsb
              simp only [Option.some.injEq, Prod.mk.injEq] at hsb
              omega
          have hgi : ¬ (least : Int) ≤ (seq : Int) := by omega
          have hgd : decide ((least : Int) ≤ (seq : Int)) = false := by simp; omega
          have hgd2 : decide (least ≤ seq) = false := by simp; omega
          clear ht hbd hb1 hw hbel HD
          go_wp2
          go_roundw
          case rel => exact ⟨k + 1, by have := hA.out; omega, by have := hA.out; go_num, HD2, hb01⟩
          case measure => simp [intOf]; omega
      · have HD2 : Hid (∀ j, j < k + 1 → ∀ seq body, takA xs ((a + 32 * j : Nat) : Int) = some (seq, body) → seq < least) := by
          intro j hj s b hsb
          by_cases hjk : j < k
          · exact HD.out j hjk s b hsb
          · obtain rfl : j = k := by omega
            rw [hA.out, ht] at hsb
            cases hsb
        clear ht hb1 hw hbel HD
        go_wp2
        go_roundw
        case rel => exact ⟨k + 1, by have := hA.out; omega, by have := hA.out; go_num, HD2, hb01⟩
        case measure => simp [intOf]; omega
    · have hlti : ¬ ((a + 32 * k : Nat) : Int) < (len : Int) := by omega
      have HN : Hid (¬ Late xs a least) := by
        rintro ⟨i, seq, body, ht, hge⟩
        have h1 := (takA_some hbyt ht).1
        have := HD.out i (by omega) seq body ht
        omega
      clear HD
      go_wp2
      go_ret
      first
        | exact .inl ⟨rfl, HN.out, hbel⟩
        | exact ⟨false, rfl, ⟨fun q => by simp at q, fun q => absurd q HN.out⟩, hbel⟩

/-- What All leaves and answers. -/
def AlR (w : World) (xs : List Int) (first : Nat) (e : Ending) (w' : World) : Prop :=
  ∃ bs a f, goes xs bs 0 first = some (a, f) ∧ (∀ b, takA xs (a : Int) ≠ some (f, b)) ∧
    (Late xs a f ∧ e = .returned (.tuple #[.slice none 0 0, .int .i64 0, .int .i64 41]) ∨ ¬ Late xs a f ∧ ∃ v, e = .returned (.tuple #[v, .int .i64 (a : Int), .int .i64 0]) ∧ Bs w' w.heap.size v bs)

theorem one_sl (v : Value) (ao : Option Addr) (n c : Nat) (h : v = .slice ao n c) : ∀ u ∈ [v], u.oneCell' = true := by intro u hu; simp at hu; subst hu; subst h; rfl

set_option maxHeartbeats 4000000 in
theorem all_any (ao : Option Addr) (len cap : Nat) (xs : List Int) (first : Int) (w : World) (h : Sl w ao len cap xs) (hl : len ≤ 140737488355328) (h0 : 0 ≤ first) (h1 : first ≤ 18446744073709551615) :
    Calls Tryz.prog 133 #[.slice ao len cap, .int .u64 first] w fun e w' => AlR w xs first.toNat e w' ∧ Below w.heap.size w w' := by
  obtain ⟨i0, hi, hz0, hz1, hz2⟩ := info_parts Tryz.info22
  have hx := h.1
  have hbyt := h.2.2.2.1
  obtain ⟨F0, hF0⟩ : ∃ F0 : Nat, first = (F0 : Int) ∧ F0 < 18446744073709551616 := ⟨first.toNat, by omega, by omega⟩
  obtain ⟨rfl, hF0⟩ := hF0
  rw [Int.toNat_natCast]
  obtain ⟨B, hB⟩ : ∃ B, B = w.heap.size := ⟨_, rfl⟩
  have hB0 := Bs.nil w B
  have hb0 : Below B w w := Below.refl _ _
  replace hB := hF hB
  go_enter Tryz.func133, Tryz.ntmps133
  go_wp2
  go_loopw [7, 8, 9, 10, 11, 12, 13] (fun v i fv _ _ _ _ wr => ∃ (bs : List (List Int)) (A F : Nat), i = .int .i64 (A : Int) ∧ fv = .int .u64 (F : Int) ∧ Hid (goes xs bs 0 F0 = some (A, F)) ∧ Bs wr B v bs ∧ Below B w wr) (fun _ i _ _ _ _ _ _ => len + 1 - (intOf i).toNat)
  case atStart => exact ⟨[], 0, F0, rfl, rfl, rfl, hB0, hb0⟩
  case round =>
    obtain ⟨bs, A, F, rfl, rfl, hg, hBs, hbel⟩ := hrel
    obtain ⟨hA1, hA2, hA3, hA4⟩ := goes_le hbyt bs 0 F0 A F hg.out (by omega) rfl hF0
    have hw := h.below (w' := wr) (by rw [← hB.out]; exact hbel)
    have hsB : B ≤ wr.heap.size := by rw [hB.out]; exact hbel.size
    go_wp2_with fail
    refine (ftake_any ao len cap xs (A : Int) wr hw hl).mono ?_
    rintro e w1 ⟨hres, hb1⟩
    have hb01 : Below B w w1 := hbel.trans (hb1.mono hsB)
    have hBs1 := hBs.below hb1
    have hw1 := hw.below hb1
    by_cases hgo : ∃ b, takA xs (A : Int) = some (F, b)
    · obtain ⟨b0, hb0t⟩ := hgo
      rcases hres with ⟨seq, body, v1, g, ht, rfl, hbd⟩ | ⟨ht, rfl⟩
      · rw [ht] at hb0t
        simp only [Option.some.injEq, Prod.mk.injEq] at hb0t
        obtain ⟨rfl, rfl⟩ := hb0t
        obtain ⟨t1, t2, t3, t4, t5, t6, t7⟩ := takA_some hbyt ht
        have hg2 := hF (goes_snoc xs bs body 0 F0 A seq hg.out ht)
        obtain ⟨cs, G, q1, q2, q3⟩ := hBs
        have hgG : ∀ i, i < bs.length → G i < g := fun i hi => by
          obtain ⟨u, _, hd⟩ := q2 i hi
          exact Nat.lt_of_lt_of_le hd.lt hbd.1
        obtain ⟨a1, c1, e1⟩ : ∃ a1 c1, v1 = .slice a1 body.length c1 := by
          obtain ⟨_, _, a1, c1, e1, _⟩ := hbd
          exact ⟨a1, c1, e1⟩
        have hone := one_sl v1 a1 body.length c1 e1
        subst e1
        have hbA : Below w1.heap.size w1 (w1.alloc (.cells #[.slice a1 body.length c1] 82)) := (Below.refl _ _).alloc (Nat.le_refl _) _
        have qA1 := row_up (row_up q1 hb1) hbA
        have qA2 : ∀ i, i < bs.length → ∃ u, cs[i]? = some u ∧ Bd (w1.alloc (.cells #[.slice a1 body.length c1] 82)) B (G i) u (bs.getD i []) := fun i hi => by
          obtain ⟨u, e, hd⟩ := q2 i hi
          exact ⟨u, e, (hd.below hb1).below hbA⟩
        have qAd := (hbd.weak hsB).below hbA
        have hb0A : Below B w (w1.alloc (.cells #[.slice a1 body.length c1] 82)) := hb01.trans (hbA.mono (Nat.le_trans hsB hb1.size))
        have hsA : B ≤ (w1.alloc (.cells #[.slice a1 body.length c1] 82)).heap.size := by
          have := hb1.size
          simp
          omega
        have hnw : ((seq : Int) + 1) % 18446744073709551616 = (((seq + 1) % 18446744073709551616 : Nat) : Int) := by omega
        have hnb := nb_pos body.length
        have hpush := fun w' v' => hF (Bs.push (w := w1.alloc (.cells #[.slice a1 body.length c1] 82)) (w' := w') (v' := v') qA2 q3 qA1 qAd hgG)
        clear hbd q1 q2 q3 hBs1 hw hb1 hbel hg ht t3 t6 hw1 qA2 qAd hbA
        go_wp2_with (at_builtin; refine wpList_append_own _ rfl _ _ 152 rfl B 82 i0 (.slice none 0 0) 1 24 Tryz.underlying152 hi hz0 hz1 hz2 rfl (by decide) _ _ _ rfl qA1 ⟨w1.heap.size, 0, none⟩ 1 1 [.slice a1 body.length c1] rfl rfl (cell_one_new _ _ _) hone (by unfold maxLen; omega) (by omega) hsA ?_)
        intro v' w2 hown2 hgrow _
        have hBs2 : Bs w2 B v' (bs ++ [body]) := (hpush w2 v').out hgrow hown2
        have hb02 : Below B w w2 := hb0A.trans ((Below.refl _ _).grown hgrow hsA fun k hk => (World.ownsRow.lt qA1 k hk).1)
        clear hpush hown2 hgrow qA1 hb0A hsA
        go_wp2
        go_roundw
        case rel => exact ⟨bs ++ [body], A + 32 * nb body.length, (seq + 1) % 18446744073709551616, by go_num, by go_num, hg2, hBs2, hb02⟩
        case measure => simp [intOf]; omega
      · rw [ht] at hb0t
        cases hb0t
    · have hstop : Hid (∀ b, takA xs (A : Int) ≠ some (F, b)) := fun b hb => hgo ⟨b, hb⟩
      clear hgo hBs hw hbel
      have hsf := standsFrom_any ao len cap xs A F w1 hw1 hl (by omega) hA3
      rcases hres with ⟨seq, body, v1, g, ht, rfl, hbd⟩ | ⟨ht, rfl⟩
      · have hne : ¬ seq = F := fun e => hstop.out body (by rw [ht, e])
        have hne1 : ((seq : Int) == (F : Int)) = false := by simp; omega
        have hne2 : ((seq : Int) != (F : Int)) = true := by simp; omega
        have hne3 : (seq == F) = false := by simpa using hne
        have hne4 : (seq != F) = true := by simpa using hne
        clear hbd ht hb1
        go_wp2_with fail
        refine hsf.mono ?_
        rintro e w2 ⟨r, rfl, hr, hb2⟩
        have hb02 : Below B w w2 := hb01.trans (hb2.mono (by rw [hB.out]; exact hb01.size))
        have hBs2 := hBs1.below hb2
        clear hsf hBs1 hb2 hb01 hw1
        cases r with
        | true =>
          have HL := hF (hr.1 rfl)
          clear hr
          go_wp2
          go_ret3
          exact ⟨⟨bs, A, F, hg.out, hstop.out, .inl ⟨HL.out, rfl⟩⟩, by rw [← hB.out]; exact hb02⟩
        | false =>
          have HL : Hid (¬ Late xs A F) := fun q => by simpa using hr.2 q
          clear hr
          go_wp2
          go_ret3
          exact ⟨⟨bs, A, F, hg.out, hstop.out, .inr ⟨HL.out, _, rfl, by rw [← hB.out]; exact hBs2⟩⟩, by rw [← hB.out]; exact hb02⟩
      · clear ht hb1
        go_wp2_with fail
        refine hsf.mono ?_
        rintro e w2 ⟨r, rfl, hr, hb2⟩
        have hb02 : Below B w w2 := hb01.trans (hb2.mono (by rw [hB.out]; exact hb01.size))
        have hBs2 := hBs1.below hb2
        clear hsf hBs1 hb2 hb01 hw1
        cases r with
        | true =>
          have HL := hF (hr.1 rfl)
          clear hr
          go_wp2
          go_ret3
          exact ⟨⟨bs, A, F, hg.out, hstop.out, .inl ⟨HL.out, rfl⟩⟩, by rw [← hB.out]; exact hb02⟩
        | false =>
          have HL : Hid (¬ Late xs A F) := fun q => by simpa using hr.2 q
          clear hr
          go_wp2
          go_ret3
          exact ⟨⟨bs, A, F, hg.out, hstop.out, .inr ⟨HL.out, _, rfl, by rw [← hB.out]; exact hBs2⟩⟩, by rw [← hB.out]; exact hb02⟩
end Go.Proofs.YthfcjfhaoabdeaaGreatDoor
