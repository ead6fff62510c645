/-
  Vs0: Layer 15 (sweep) without memory: which of a chain's versions stay, what a sweep leaves, who is seen.
  Vs1: Layer 15: marks, and how many stay: the program's and the document's.
  Vs3: Layer 15: how many stay: Keep, the program's and the document's.
-/
import Derived.Test.YtfhcphgjaobnoaaDoorWd2
import Derived.Test.YtfhcphgjaobnoaaDoorWd5
import Derived.Test.YtfhcphgjaobnoaaDoorCOpen
import Derived.Test.YtfhcphgjaobnoaaDoorHaS
import Derived.BigQuiet
set_option linter.unusedVariables false
set_option linter.unusedSimpArgs false
namespace Go.Proofs.YtfhcphgjaobnoaaDoor

section
open Go.RowKit

/-- Is a word a timestamp not above the mark? -/
def come (x mark : Int) : Bool := decide (x < 1099511627776) && decide (x ≤ mark)
/-- How many stay. -/
def kp (mark : Int) : List (Int × Int) → Nat
  | [] => 0
  | p :: l => if come p.1 mark = true then (if come p.2 mark = true then 0 else 1) else kp mark l + 1
theorem kp_le (mark : Int) : ∀ l, kp mark l ≤ l.length
  | [] => Nat.le_refl _
  | p :: l => by
    have := kp_le mark l
    unfold kp
    simp only [List.length_cons]
    split
    · split <;> omega
    · omega
/-- Of what stays all stays. -/
theorem kp_take (mark : Int) : ∀ l, kp mark (l.take (kp mark l)) = kp mark l
  | [] => rfl
  | p :: l => by
    have ih := kp_take mark l
    by_cases h1 : come p.1 mark = true
    · by_cases h2 : come p.2 mark = true
      · simp [kp, h1, h2]
      · simp [kp, h1, h2]
    · simp only [kp, h1, if_false, List.take_succ_cons, ih, Bool.false_eq_true]

/-- Words of which the older ones are over where a newer one is come. -/
def Rd (mark : Int) (l : List (Int × Int)) : Prop := l.Pairwise fun p q => p.1 ≤ mark → q.2 ≤ mark
/-- The first one that is seen. -/
def fs (at_ : Int) : List (Nat × (Int × Int)) → Nat
  | [] => 0
  | p :: l => if p.2.1 ≤ at_ ∧ at_ < p.2.2 then p.1 else fs at_ l
theorem fs_none {at_ : Int} : ∀ {l : List (Nat × (Int × Int))}, (∀ p ∈ l, ¬ (p.2.1 ≤ at_ ∧ at_ < p.2.2)) → fs at_ l = 0
  | [], _ => rfl
  | p :: l, h => by
    unfold fs
    rw [if_neg (h p (by simp))]
    exact fs_none fun q hq => h q (by simp [hq])
theorem fs_take {mark at_ : Int} (hm : mark ≤ at_) (ha : mark < 1099511627776) : ∀ (l : List (Nat × (Int × Int))), Rd mark (l.map (·.2)) → fs at_ (l.take (kp mark (l.map (·.2)))) = fs at_ l
  | [], _ => rfl
  | p :: l, h => by
    have h' := List.pairwise_cons.1 h
    have ih := fs_take hm ha l h'.2
    have old : p.2.1 ≤ mark → fs at_ l = 0 := fun q => fs_none fun x hx e => by
      have := h'.1 x.2 (List.mem_map.2 ⟨x, hx, rfl⟩) q
      omega
    simp only [List.map_cons]
    by_cases h1 : come p.2.1 mark = true
    · have hb : p.2.1 ≤ mark := by simp only [come, Bool.and_eq_true, decide_eq_true_eq] at h1; exact h1.2
      by_cases h2 : come p.2.2 mark = true
      · have he : p.2.2 ≤ mark := by simp only [come, Bool.and_eq_true, decide_eq_true_eq] at h2; exact h2.2
        simp only [kp, h1, h2, if_true, List.take_zero, fs]
        rw [if_neg (by omega), old hb]
      · simp only [kp, h1, h2, if_true, if_false, Bool.false_eq_true, List.take_succ_cons, List.take_zero, fs, old hb]
    · simp only [kp, h1, if_false, Bool.false_eq_true, List.take_succ_cons, fs, ih]
end

section
open Go.RowKit Go.Maps

abbrev uh (x : Int) : List Value := [.int .u64 x]
theorem bdrew {B : Nat} {a w : World} (h : Below B a w) (q : Nat) : Below B a (w.drewN q) := ⟨h.os, h.tape, h.output, h.size, h.block⟩
/-- The least of all. -/
def lwm (now : Int) (xs : List Int) : Int := xs.foldl (fun a b => if b < a then b else a) now
theorem lwm_snoc (now : Int) (xs : List Int) (b : Int) : lwm now (xs ++ [b]) = if b < lwm now xs then b else lwm now xs := by unfold lwm; rw [List.foldl_append]; rfl
theorem take_snoc {α : Type} {l : List α} {k : Nat} {o : α} (h : l[k]? = some o) : l.take (k + 1) = l.take k ++ [o] := by
  have hk : k < l.length := by
    rcases Nat.lt_or_ge k l.length with q | q
    · exact q
    · rw [List.getElem?_eq_none q] at h; cases h
  have e : l[k] = o := by rw [List.getElem?_eq_getElem hk] at h; exact Option.some.inj h
  rw [← List.take_append_getElem hk, e]
theorem take_all {α : Type} {l : List α} {k : Nat} (h : l.length = k) : l.take k = l := by rw [← h]; exact List.take_length
theorem come_kd {x mark : Int} (h : kd x ≠ 1) (h0 : 0 ≤ x) : come x mark = false := by
  unfold come
  have : ¬ x < 1099511627776 := fun q => h (by unfold kd; rw [if_pos q])
  simp [this]

set_option maxRecDepth 100000 in
set_option maxHeartbeats 2000000 in
theorem hasCome_any (n mark : Int) (w : World) (h0 : 0 ≤ n) : Calls Tryd.prog 33 #[.int .u64 n, .int .i64 mark] w fun e w' => e = .returned (.bool (come n mark)) ∧ w' = w := by
  have HP := hide2 (parts_any n w h0)
  rcases kd_cases n with k | k | k | k
  · have e1 : ptO n = false := by simp [ptO, k]
    rw [e1] at HP
    rw [come_kd (by omega) h0]
    go_enter Tryd.func33, Tryd.ntmps33
    go_wp2_with fail
    refine HP.out.mono ?_
    rintro e w1 ⟨rfl, q1⟩
    subst q1
    clear HP
    go_wp2
    go_ret
    exact ⟨rfl, rfl⟩
  · have e1 : ptO n = true := by simp [ptO, k]
    have e2 : ptN n = 0 := by simp [ptN, k]
    have e3 : ptT n = n := by simp [ptT, k]
    have e4 : n < 1099511627776 := kd_one k
    rw [e1, e2, e3] at HP
    have e5 : come n mark = decide (n ≤ mark) := by simp [come, e4]
    rw [e5]
    have d1 : (n != 1099511627776) = true := by simp [bne]; omega
    have d2 : n ≠ 1099511627776 := by omega
    clear e1 e2 e3 e5 k
    go_enter Tryd.func33, Tryd.ntmps33
    go_wp2_with fail
    refine HP.out.mono ?_
    rintro e w1 ⟨rfl, q1⟩
    subst q1
    clear HP
    go_wp2
    go_ret
    exact ⟨rfl, rfl⟩
  · have e1 : ptO n = true := by simp [ptO, k]
    have e2 : ptN n = 0 := by simp [ptN, k]
    have e4 : n = 1099511627776 := kd_two k
    rw [e1, e2] at HP
    rw [come_kd (by omega) h0]
    subst e4
    go_enter Tryd.func33, Tryd.ntmps33
    go_wp2_with fail
    refine HP.out.mono ?_
    rintro e w1 ⟨rfl, q1⟩
    subst q1
    clear HP
    go_wp2
    go_ret
    exact ⟨rfl, rfl⟩
  · have e1 : ptO n = true := by simp [ptO, k]
    have e4 := kd_three k
    have e2 : ptN n = n - 9223372036854775808 := by simp [ptN, k]
    rw [e1] at HP
    rw [come_kd (by omega) h0]
    have d1 : (ptN n == 0) = false := by rw [e2]; simp; omega
    have d2 : ¬ ptN n = 0 := by rw [e2]; omega
    clear e2
    go_enter Tryd.func33, Tryd.ntmps33
    go_wp2_with fail
    refine HP.out.mono ?_
    rintro e w1 ⟨rfl, q1⟩
    subst q1
    clear HP
    go_wp2
    go_ret
    exact ⟨rfl, rfl⟩
set_option maxRecDepth 100000 in
set_option maxHeartbeats 2000000 in
theorem rpast15_any (n mark : Int) (w : World) (h0 : 0 ≤ n) (h9 : n ≤ 18446744073709551615) : Calls Tryd.prog 34 #[.int .u64 n, .int .i64 mark] w fun e w' => e = .returned (.bool (come n mark)) ∧ w' = w := by
  have HP := hide2 (rparts_any n w h0 h9)
  rcases kd_cases n with k | k | k | k
  · have e1 : ptO n = false := by simp [ptO, k]
    rw [e1] at HP
    rw [come_kd (by omega) h0]
    go_enter Tryd.func34, Tryd.ntmps34
    go_wp2_with fail
    refine HP.out.mono ?_
    rintro e w1 ⟨rfl, q1⟩
    subst q1
    clear HP
    go_wp2
    go_ret
    exact ⟨rfl, rfl⟩
  · have e1 : ptO n = true := by simp [ptO, k]
    have e2 : ptN n = 0 := by simp [ptN, k]
    have e3 : ptT n = n := by simp [ptT, k]
    have e4 : n < 1099511627776 := kd_one k
    rw [e1, e2, e3] at HP
    have e5 : come n mark = decide (n ≤ mark) := by simp [come, e4]
    rw [e5]
    have d1 : (n != 1099511627776) = true := by simp [bne]; omega
    have d2 : n ≠ 1099511627776 := by omega
    clear e1 e2 e3 e5 k
    go_enter Tryd.func34, Tryd.ntmps34
    go_wp2_with fail
    refine HP.out.mono ?_
    rintro e w1 ⟨rfl, q1⟩
    subst q1
    clear HP
    go_wp2
    go_ret
    exact ⟨rfl, rfl⟩
  · have e1 : ptO n = true := by simp [ptO, k]
    have e2 : ptN n = 0 := by simp [ptN, k]
    have e4 : n = 1099511627776 := kd_two k
    rw [e1, e2] at HP
    rw [come_kd (by omega) h0]
    subst e4
    go_enter Tryd.func34, Tryd.ntmps34
    go_wp2_with fail
    refine HP.out.mono ?_
    rintro e w1 ⟨rfl, q1⟩
    subst q1
    clear HP
    go_wp2
    go_ret
    exact ⟨rfl, rfl⟩
  · have e1 : ptO n = true := by simp [ptO, k]
    have e4 := kd_three k
    have e2 : ptN n = n - 9223372036854775808 := by simp [ptN, k]
    rw [e1] at HP
    rw [come_kd (by omega) h0]
    have d1 : (ptN n == 0) = false := by rw [e2]; simp; omega
    have d2 : ¬ ptN n = 0 := by rw [e2]; omega
    clear e2
    go_enter Tryd.func34, Tryd.ntmps34
    go_wp2_with fail
    refine HP.out.mono ?_
    rintro e w1 ⟨rfl, q1⟩
    subst q1
    clear HP
    go_wp2
    go_ret
    exact ⟨rfl, rfl⟩

set_option maxRecDepth 100000 in
set_option maxHeartbeats 2000000 in
theorem watermark_any (now : Int) {w : World} {ao : Option Addr} {len cap : Nat} {xs : List Int} (hs : Seq 1 ih w ao len cap xs) :
    Calls Tryd.prog 10 #[.int .i64 now, .slice ao len cap] w fun e w' => e = .returned (.int .i64 (lwm now xs)) ∧ w' = w := by
  have hcap := hs.2.1
  have hmax := hs.2.2.1
  unfold maxLen at hmax
  go_enter Tryd.func10, Tryd.ntmps10
  go_wp2
  go_loop [9, 0] (fun i a => ∃ k : Nat, k ≤ len ∧ i = .int .i64 k ∧ a = .int .i64 (lwm now (xs.take k))) (fun i _ => len - (intOf i).toNat)
  case atStart => exact ⟨0, by omega, rfl, rfl⟩
  case round =>
    obtain ⟨k, hk, rfl, rfl⟩ := hrel
    by_cases hkl : k < len
    · obtain ⟨b, off, rfl, hbl, hcell⟩ := hs.2.2.2 (by omega)
      obtain ⟨o, ho⟩ := some_at hs.1 hkl
      have q0 : w.cell? ⟨b, off + k, none⟩ = some (.int .i64 o) := by have := hcell k o ho 0 _ rfl; simpa using this
      have HE := hide2 (take_snoc ho)
      have hkl2 : (k : Int) < (len : Int) := by omega
      obtain ⟨m, hm⟩ : ∃ m, m = lwm now (xs.take k) := ⟨_, rfl⟩
      rw [← hm]
      have HM := hide2 hm
      clear hcell ho hm
      by_cases hlt : o < m
      · have d1 : decide (o < m) = true := by simp [hlt]
        go_wp2
        go_round
        case rel => exact ⟨k + 1, by omega, by go_num, by rw [HE.out, lwm_snoc, ← HM.out]; simp [hlt]; try omega⟩
        case measure => simp [intOf]; omega
      · have d1 : decide (o < m) = false := by simp [hlt]
        go_wp2
        go_round
        case rel => exact ⟨k + 1, by omega, by go_num, by rw [HE.out, lwm_snoc, ← HM.out]; simp [hlt]; try omega⟩
        case measure => simp [intOf]; omega
    · obtain rfl : k = len := by omega
      rw [take_all hs.1]
      go_wp2
      go_ret
      exact ⟨rfl, rfl⟩
set_option maxRecDepth 100000 in
set_option maxHeartbeats 2000000 in
theorem rwatermark_any (now : Int) {w : World} {ao : Option Addr} {len cap : Nat} {xs : List Int} (hs : Seq 1 ih w ao len cap xs) :
    Calls Tryd.prog 12 #[.int .i64 now, .slice ao len cap] w fun e w' => e = .returned (.int .i64 (lwm now xs)) ∧ w' = w := by
  have hcap := hs.2.1
  have hmax := hs.2.2.1
  unfold maxLen at hmax
  go_enter Tryd.func12, Tryd.ntmps12
  go_wp2
  go_loop [6, 5] (fun i a => ∃ k : Nat, k ≤ len ∧ i = .int .i64 k ∧ a = .int .i64 (lwm now (xs.take k))) (fun i _ => len - (intOf i).toNat)
  case atStart => exact ⟨0, by omega, rfl, rfl⟩
  case round =>
    obtain ⟨k, hk, rfl, rfl⟩ := hrel
    by_cases hkl : k < len
    · obtain ⟨b, off, rfl, hbl, hcell⟩ := hs.2.2.2 (by omega)
      obtain ⟨o, ho⟩ := some_at hs.1 hkl
      have q0 : w.cell? ⟨b, off + k, none⟩ = some (.int .i64 o) := by have := hcell k o ho 0 _ rfl; simpa using this
      have HE := hide2 (take_snoc ho)
      have hkl2 : (k : Int) < (len : Int) := by omega
      obtain ⟨m, hm⟩ : ∃ m, m = lwm now (xs.take k) := ⟨_, rfl⟩
      rw [← hm]
      have HM := hide2 hm
      clear hcell ho hm
      by_cases hlt : o < m
      · have d1 : decide (o < m) = true := by simp [hlt]
        go_wp2
        go_round
        case rel => exact ⟨k + 1, by omega, by go_num, by rw [HE.out, lwm_snoc, ← HM.out]; simp [hlt]; try omega⟩
        case measure => simp [intOf]; omega
      · have d1 : decide (o < m) = false := by simp [hlt]
        go_wp2
        go_round
        case rel => exact ⟨k + 1, by omega, by go_num, by rw [HE.out, lwm_snoc, ← HM.out]; simp [hlt]; try omega⟩
        case measure => simp [intOf]; omega
    · obtain rfl : k = len := by omega
      rw [take_all hs.1]
      go_wp2
      go_ret
      exact ⟨rfl, rfl⟩

/-! ### how many stay -/
/-- The first that is come; none: how many there are. -/
def fc (mark : Int) : List Int → Option Nat
  | [] => none
  | b :: l => if come b mark = true then some 0 else (fc mark l).map (· + 1)
def fcV (mark : Int) (bs : List Int) : Int := match fc mark bs with | none => -1 | some k => (k : Int)
theorem fc_none {mark : Int} : ∀ {l : List Int}, fc mark l = none ↔ ∀ b ∈ l, come b mark = false
  | [] => by simp [fc]
  | b :: l => by
    unfold fc
    by_cases h : come b mark = true
    · simp [h]
    · simp [h, fc_none (l := l)]
theorem fc_some {mark : Int} : ∀ {l : List Int} {k : Nat} {b : Int}, l[k]? = some b → come b mark = true → (∀ x ∈ l.take k, come x mark = false) → fc mark l = some k
  | [], k, b, h, _, _ => by simp at h
  | x :: l, 0, b, h, hb, _ => by simp at h; subst h; simp [fc, hb]
  | x :: l, k + 1, b, h, hb, hn => by
    have h1 : come x mark = false := hn x (by simp)
    have ih := fc_some (l := l) (k := k) (by simpa using h) hb (fun y hy => hn y (by simp [hy]))
    simp [fc, h1, ih]
/-- What Keep tells of lists: as many as the shorter one has. -/
def kpz (mark : Int) (bs es : List Int) : Nat := kp mark (bs.zip es)
theorem kpz_none {mark : Int} : ∀ {bs es : List Int}, (∀ b ∈ bs.take es.length, come b mark = false) → kpz mark bs es = min bs.length es.length
  | [], es, _ => by simp [kpz, kp]
  | b :: bs, [], _ => by simp [kpz, kp]
  | b :: bs, e :: es, h => by
    have h1 : come b mark = false := h b (by simp)
    have ih := kpz_none (bs := bs) (es := es) (fun x hx => h x (by simp [hx]))
    unfold kpz at ih
    simp only [kpz, List.zip_cons_cons, kp, h1, if_false, Bool.false_eq_true, ih, List.length_cons]
    omega
theorem kpz_some {mark : Int} : ∀ {bs es : List Int} {k : Nat} {b e : Int}, bs[k]? = some b → es[k]? = some e → come b mark = true → (∀ x ∈ bs.take k, come x mark = false) → kpz mark bs es = if come e mark = true then k else k + 1
  | [], _, k, b, e, h, _, _, _ => by simp at h
  | _ :: _, [], k, b, e, _, h, _, _ => by simp at h
  | x :: bs, y :: es, 0, b, e, h, h2, hb, _ => by
    simp at h h2; subst h; subst h2
    simp only [kpz, List.zip_cons_cons, kp, hb, if_true]
  | x :: bs, y :: es, k + 1, b, e, h, h2, hb, hn => by
    have h1 : come x mark = false := hn x (by simp)
    have ih := kpz_some (bs := bs) (es := es) (k := k) (by simpa using h) (by simpa using h2) hb (fun y hy => hn y (by simp [hy]))
    unfold kpz at ih
    simp only [kpz, List.zip_cons_cons, kp, h1, if_false, Bool.false_eq_true, ih]
    split <;> rfl

theorem fc_inv {mark : Int} : ∀ {l : List Int} {k : Nat}, fc mark l = some k → ∃ b, l[k]? = some b ∧ come b mark = true ∧ ∀ x ∈ l.take k, come x mark = false
  | [], k, h => by simp [fc] at h
  | x :: l, k, h => by
    unfold fc at h
    by_cases hx : come x mark = true
    · rw [if_pos hx] at h
      have e : k = 0 := by simpa using h.symm
      subst e
      exact ⟨x, rfl, hx, by simp⟩
    · rw [if_neg hx] at h
      cases hf : fc mark l with
      | none => rw [hf] at h; cases h
      | some j =>
        rw [hf] at h
        have e : k = j + 1 := by simpa using h.symm
        subst e
        obtain ⟨b, h1, h2, h3⟩ := fc_inv hf
        refine ⟨b, by simpa using h1, h2, fun y hy => ?_⟩
        rw [List.take_succ_cons] at hy
        rcases List.mem_cons.1 hy with e | e
        · rw [e]; exact Bool.eq_false_iff.mpr hx
        · exact h3 y e
theorem Seq.upto {α : Type} {k : Nat} {f : α → List Value} {w : World} {ao : Option Addr} {len cap n : Nat} {xs : List α} (h : Seq k f w ao len cap xs) (hn : n ≤ len) : Seq k f w ao n cap (xs.take n) := by
  have h1 := h.1
  have h2 := h.2.1
  refine ⟨by simp; omega, by omega, h.2.2.1, fun q => ?_⟩
  obtain ⟨b, off, e, hbl, hc⟩ := h.2.2.2 (by omega)
  refine ⟨b, off, e, hbl, fun i x hi j u hu => hc i x ?_ j u hu⟩
  rw [List.getElem?_take] at hi
  split at hi
  · exact hi
  · cases hi

set_option maxRecDepth 100000 in
set_option maxHeartbeats 2000000 in
theorem keep1_any {w : World} {zb : Nat} {mark n : Int} (h0 : 0 ≤ n) (hzl : zb < w.heap.size) (hz : w.cell? ⟨zb, 0, none⟩ = some (.int .i64 mark)) :
    Calls Tryd.prog 32 #[.int .u64 n, .pointer (some ⟨zb, 0, none⟩)] w fun e w' => e = .returned (.bool (come n mark)) ∧ w' = w := by
  have HC := hide2 (hasCome_any n mark w h0)
  go_enter Tryd.func32, Tryd.ntmps32
  go_wp2_with fail
  refine HC.out.mono ?_
  rintro e w1 ⟨rfl, q1⟩
  subst q1
  clear HC
  go_wp2
  go_ret
  exact ⟨rfl, rfl⟩
theorem eg_keep : ∀ args w, (callFunc 32 args).run Tryd.prog w = .ok (.enter 32 args) w := enters_of Tryd.func32 (by kernel_rfl) rfl

set_option maxRecDepth 100000 in
set_option maxHeartbeats 2000000 in
theorem indexFunc_any {w : World} {zb : Nat} {mark : Int} {ao : Option Addr} {len cap : Nat} {bs : List Int} (hs : Seq 1 uh w ao len cap bs) (hb0 : ∀ x ∈ bs, 0 ≤ x) (hzl : zb < w.heap.size) (hz : w.cell? ⟨zb, 0, none⟩ = some (.int .i64 mark)) :
    Calls Tryd.prog 31 #[.slice ao len cap, .func (.func 32) #[] #[.pointer (some ⟨zb, 0, none⟩)]] w fun e w' => e = .returned (.int .i64 (fcV mark bs)) ∧ w' = w := by
  have eg := eg_keep
  have hcap := hs.2.1
  have hmax := hs.2.2.1
  unfold maxLen at hmax
  have HZ := hide2 hz
  go_enter Tryd.func31, Tryd.ntmps31
  go_wp2
  go_loop [8] (fun i => ∃ k : Nat, k ≤ len ∧ i = .int .i64 k ∧ Hid (∀ x ∈ bs.take k, come x mark = false)) (fun i => len - (intOf i).toNat)
  case atStart => exact ⟨0, by omega, rfl, hide2 (by simp)⟩
  case round =>
    obtain ⟨k, hk, rfl, hno⟩ := hrel
    by_cases hkl : k < len
    · obtain ⟨b, off, rfl, hbl, hcell⟩ := hs.2.2.2 (by omega)
      obtain ⟨o, ho⟩ := some_at hs.1 hkl
      have q0 : w.cell? ⟨b, off + k, none⟩ = some (.int .u64 o) := by have := hcell k o ho 0 _ rfl; simpa using this
      have HE := hide2 (take_snoc ho)
      have HO := hide2 ho
      have HD := hide2 (keep1_any (mark := mark) (hb0 o (List.mem_of_getElem? ho)) hzl HZ.out)
      have hkl2 : (k : Int) < (len : Int) := by omega
      clear hcell ho hz
      go_wp2_with fail
      refine HD.out.mono ?_
      rintro e w1 ⟨rfl, q1⟩
      subst q1
      clear HD
      cases hb : come o mark with
      | true =>
        go_wp2
        go_ret
        have e : fcV mark bs = (k : Int) := by unfold fcV; rw [fc_some HO.out hb hno.out]
        exact ⟨by rw [e]; rfl, rfl⟩
      | false =>
        go_wp2
        go_round
        case rel => exact ⟨k + 1, by omega, by go_num, hide2 (by rw [HE.out]; intro x hx; rcases List.mem_append.1 hx with e | e; exact hno.out x e; simp at e; rw [e]; exact hb)⟩
        case measure => simp [intOf]; omega
    · obtain rfl : k = len := by omega
      have HN := hno.out
      rw [take_all hs.1] at HN
      have HN := hide2 HN
      clear hz
      go_wp2
      go_ret
      have e : fcV mark bs = -1 := by unfold fcV; rw [fc_none.2 HN.out]
      exact ⟨by rw [e]; rfl, rfl⟩
end

section
open Go.RowKit Go.Maps

set_option maxRecDepth 100000 in
set_option maxHeartbeats 1000000 in
theorem skeep_any {w : World} {mark : Int} {ao bo : Option Addr} {la ca lb cb : Nat} {bs es : List Int} (hs : Seq 1 uh w ao la ca bs) (ht : Seq 1 uh w bo lb cb es) (hb0 : ∀ x ∈ bs, U64 x) (he0 : ∀ x ∈ es, U64 x) :
    Calls Tryd.prog 11 #[.slice ao la ca, .slice bo lb cb, .int .i64 mark] w fun e w' => e = .returned (.int .i64 (kpz mark bs es : Nat)) ∧ Below w.heap.size w w' := by
  have l1 := hs.1
  have l2 := hs.2.1
  have l3 := hs.2.2.1
  have t1 := ht.1
  have t2 := ht.2.1
  have t3 := ht.2.2.1
  unfold maxLen at l3 t3
  by_cases hq : lb < la
  · have d1 : (lb : Int) < (la : Int) := by omega
    have d2 : decide ((lb : Int) < (la : Int)) = true := by simp; omega
    have hnl : lb ≤ la ∧ lb ≤ lb := by omega
    have hs2 : Seq 1 uh w ao lb ca (bs.take lb) := hs.upto hnl.1
    have hbt : ∀ x ∈ bs.take lb, 0 ≤ x := fun x hx => (hb0 x (List.mem_of_mem_take hx)).1
    have hB : Below w.heap.size w (w.alloc (.cells #[.int .i64 mark] 2)) := (Below.refl _ w).alloc (Nat.le_refl _) _
    have hz : (w.alloc (.cells #[.int .i64 mark] 2)).cell? ⟨w.heap.size, 0, none⟩ = some (.int .i64 mark) := hcell_new w _ _ 0 _ rfl
    have HZ := hide2 hz
    have HI := hide2 (indexFunc_any (mark := mark) (hs2.keep hB) hbt (by simp) hz)
    have HB := hide2 hB
    have HL : Hid (lb = min bs.length es.length) := hide2 (by omega)
    have HTK : Hid (bs.take lb = bs.take es.length) := hide2 (by
      rw [t1])
    cases hf : fc mark (bs.take lb) with
    | none =>
      have e1 : fcV mark (bs.take lb) = -1 := by unfold fcV; rw [hf]
      rw [e1] at HI
      have hk : kpz mark bs es = lb := by rw [kpz_none (by rw [← HTK.out]; exact fc_none.1 hf), HL.out]
      rw [hk]
      clear hs ht hs2 hf e1 hk hb0 he0 hbt hB hz HZ HTK HL
      go_enter Tryd.func11, Tryd.ntmps11
      go_wp2_with fail
      refine HI.out.mono ?_
      rintro e w1 ⟨rfl, q1⟩
      subst q1
      clear HI
      go_wp2
      go_ret
      exact ⟨rfl, HB.out⟩
    | some k =>
      have e1 : fcV mark (bs.take lb) = (k : Int) := by unfold fcV; rw [hf]
      rw [e1] at HI
      obtain ⟨b, f1, f2, f3⟩ := fc_inv hf
      have hkn : k < lb := by
        rcases Nat.lt_or_ge k lb with q | q
        · exact q
        · rw [List.getElem?_eq_none (by simp; omega)] at f1; cases f1
      have f1' : bs[k]? = some b := by rw [List.getElem?_take, if_pos hkn] at f1; exact f1
      rw [List.take_take, show min k lb = k by omega] at f3
      obtain ⟨x, hx⟩ := some_at ht.1 (i := k) (by omega)
      have hk := kpz_some f1' hx f2 f3
      obtain ⟨eb, eoff, rfl, hel, hcell⟩ := (ht.keep hB).2.2.2 (by omega)
      have q0 : (w.alloc (.cells #[.int .i64 mark] 2)).cell? ⟨eb, eoff + k, none⟩ = some (.int .u64 x) := by have := hcell k x hx 0 _ rfl; simpa using this
      have hx0 := (he0 x (List.mem_of_getElem? hx)).1
      have hh : ∀ w2, Calls Tryd.prog 33 #[.int .u64 x, .int .i64 mark] w2 fun e w' => e = .returned (.bool (come x mark)) ∧ w' = w2 := fun w2 => hasCome_any x mark w2 hx0
      have HQ := hide2 q0
      clear hs ht hs2 hf e1 hb0 he0 hbt hB HTK HL hcell f1 f1' f2 f3 hx hz q0
      cases hc : come x mark with
      | true =>
        rw [hc] at hk hh
        simp only [if_true] at hk
        rw [hk]
        clear hk hc
        go_enter Tryd.func11, Tryd.ntmps11
        go_wp2_with fail
        refine HI.out.mono ?_
        rintro e w1 ⟨rfl, q1⟩
        have z1 : w1.cell? ⟨w.heap.size, 0, none⟩ = some (.int .i64 mark) := by rw [q1]; exact HZ.out
        have x1 : w1.cell? ⟨eb, eoff + k, none⟩ = some (.int .u64 x) := by rw [q1]; exact HQ.out
        have HB1 : Hid (Below w.heap.size w w1) := hide2 (by rw [q1]; exact HB.out)
        clear HI q1 HB HZ HQ
        go_wp2
        go_quiet ((go_at_call 33; exact Calls.quiet_of_same (hh _)))
        go_wp2
        go_ret
        exact ⟨rfl, bdrew HB1.out _⟩
      | false =>
        rw [hc] at hk hh
        simp only [if_false, Bool.false_eq_true] at hk
        rw [hk]
        clear hk hc
        go_enter Tryd.func11, Tryd.ntmps11
        go_wp2_with fail
        refine HI.out.mono ?_
        rintro e w1 ⟨rfl, q1⟩
        have z1 : w1.cell? ⟨w.heap.size, 0, none⟩ = some (.int .i64 mark) := by rw [q1]; exact HZ.out
        have x1 : w1.cell? ⟨eb, eoff + k, none⟩ = some (.int .u64 x) := by rw [q1]; exact HQ.out
        have HB1 : Hid (Below w.heap.size w w1) := hide2 (by rw [q1]; exact HB.out)
        clear HI q1 HB HZ HQ
        go_wp2
        go_quiet ((go_at_call 33; exact Calls.quiet_of_same (hh _)))
        go_wp2
        go_ret
        exact ⟨by go_num, bdrew HB1.out _⟩

  · have d1 : ¬ (lb : Int) < (la : Int) := by omega
    have d2 : decide ((lb : Int) < (la : Int)) = false := by simp; omega
    have hnl : la ≤ la ∧ la ≤ lb := by omega
    have hs2 : Seq 1 uh w ao la ca (bs.take la) := hs.upto hnl.1
    have hbt : ∀ x ∈ bs.take la, 0 ≤ x := fun x hx => (hb0 x (List.mem_of_mem_take hx)).1
    have hB : Below w.heap.size w (w.alloc (.cells #[.int .i64 mark] 2)) := (Below.refl _ w).alloc (Nat.le_refl _) _
    have hz : (w.alloc (.cells #[.int .i64 mark] 2)).cell? ⟨w.heap.size, 0, none⟩ = some (.int .i64 mark) := hcell_new w _ _ 0 _ rfl
    have HZ := hide2 hz
    have HI := hide2 (indexFunc_any (mark := mark) (hs2.keep hB) hbt (by simp) hz)
    have HB := hide2 hB
    have HL : Hid (la = min bs.length es.length) := hide2 (by omega)
    have HTK : Hid (bs.take la = bs.take es.length) := hide2 (by
      rw [t1]
      rw [take_all l1, List.take_of_length_le (by omega)])
    cases hf : fc mark (bs.take la) with
    | none =>
      have e1 : fcV mark (bs.take la) = -1 := by unfold fcV; rw [hf]
      rw [e1] at HI
      have hk : kpz mark bs es = la := by rw [kpz_none (by rw [← HTK.out]; exact fc_none.1 hf), HL.out]
      rw [hk]
      clear hs ht hs2 hf e1 hk hb0 he0 hbt hB hz HZ HTK HL
      go_enter Tryd.func11, Tryd.ntmps11
      go_wp2_with fail
      refine HI.out.mono ?_
      rintro e w1 ⟨rfl, q1⟩
      subst q1
      clear HI
      go_wp2
      go_ret
      exact ⟨rfl, HB.out⟩
    | some k =>
      have e1 : fcV mark (bs.take la) = (k : Int) := by unfold fcV; rw [hf]
      rw [e1] at HI
      obtain ⟨b, f1, f2, f3⟩ := fc_inv hf
      have hkn : k < la := by
        rcases Nat.lt_or_ge k la with q | q
        · exact q
        · rw [List.getElem?_eq_none (by simp; omega)] at f1; cases f1
      have f1' : bs[k]? = some b := by rw [List.getElem?_take, if_pos hkn] at f1; exact f1
      rw [List.take_take, show min k la = k by omega] at f3
      obtain ⟨x, hx⟩ := some_at ht.1 (i := k) (by omega)
      have hk := kpz_some f1' hx f2 f3
      obtain ⟨eb, eoff, rfl, hel, hcell⟩ := (ht.keep hB).2.2.2 (by omega)
      have q0 : (w.alloc (.cells #[.int .i64 mark] 2)).cell? ⟨eb, eoff + k, none⟩ = some (.int .u64 x) := by have := hcell k x hx 0 _ rfl; simpa using this
      have hx0 := (he0 x (List.mem_of_getElem? hx)).1
      have hh : ∀ w2, Calls Tryd.prog 33 #[.int .u64 x, .int .i64 mark] w2 fun e w' => e = .returned (.bool (come x mark)) ∧ w' = w2 := fun w2 => hasCome_any x mark w2 hx0
      have HQ := hide2 q0
      clear hs ht hs2 hf e1 hb0 he0 hbt hB HTK HL hcell f1 f1' f2 f3 hx hz q0
      cases hc : come x mark with
      | true =>
        rw [hc] at hk hh
        simp only [if_true] at hk
        rw [hk]
        clear hk hc
        go_enter Tryd.func11, Tryd.ntmps11
        go_wp2_with fail
        refine HI.out.mono ?_
        rintro e w1 ⟨rfl, q1⟩
        have z1 : w1.cell? ⟨w.heap.size, 0, none⟩ = some (.int .i64 mark) := by rw [q1]; exact HZ.out
        have x1 : w1.cell? ⟨eb, eoff + k, none⟩ = some (.int .u64 x) := by rw [q1]; exact HQ.out
        have HB1 : Hid (Below w.heap.size w w1) := hide2 (by rw [q1]; exact HB.out)
        clear HI q1 HB HZ HQ
        go_wp2
        go_quiet ((go_at_call 33; exact Calls.quiet_of_same (hh _)))
        go_wp2
        go_ret
        exact ⟨rfl, bdrew HB1.out _⟩
      | false =>
        rw [hc] at hk hh
        simp only [if_false, Bool.false_eq_true] at hk
        rw [hk]
        clear hk hc
        go_enter Tryd.func11, Tryd.ntmps11
        go_wp2_with fail
        refine HI.out.mono ?_
        rintro e w1 ⟨rfl, q1⟩
        have z1 : w1.cell? ⟨w.heap.size, 0, none⟩ = some (.int .i64 mark) := by rw [q1]; exact HZ.out
        have x1 : w1.cell? ⟨eb, eoff + k, none⟩ = some (.int .u64 x) := by rw [q1]; exact HQ.out
        have HB1 : Hid (Below w.heap.size w w1) := hide2 (by rw [q1]; exact HB.out)
        clear HI q1 HB HZ HQ
        go_wp2
        go_quiet ((go_at_call 33; exact Calls.quiet_of_same (hh _)))
        go_wp2
        go_ret
        exact ⟨by go_num, bdrew HB1.out _⟩

set_option maxRecDepth 100000 in
set_option maxHeartbeats 2000000 in
theorem rkeep_any {w : World} {mark : Int} {ao bo : Option Addr} {la ca lb cb : Nat} {bs es : List Int} (hs : Seq 1 uh w ao la ca bs) (ht : Seq 1 uh w bo lb cb es) (hb0 : ∀ x ∈ bs, U64 x) (he0 : ∀ x ∈ es, U64 x) :
    Calls Tryd.prog 13 #[.slice ao la ca, .slice bo lb cb, .int .i64 mark] w fun e w' => e = .returned (.int .i64 (kpz mark bs es : Nat)) ∧ w' = w := by
  have l1 := hs.1
  have l2 := hs.2.1
  have l3 := hs.2.2.1
  have t1 := ht.1
  have t2 := ht.2.1
  have t3 := ht.2.2.1
  unfold maxLen at l3 t3
  by_cases hq : lb < la
  · have d1 : (lb : Int) < (la : Int) := by omega
    have d2 : decide ((lb : Int) < (la : Int)) = true := by simp; omega
    have hnl : lb ≤ la ∧ lb ≤ lb := by omega
    have HL : Hid (lb = min bs.length es.length) := hide2 (by omega)
    have HTK : Hid (bs.take lb = bs.take es.length) := hide2 (by
      rw [t1])
    go_enter Tryd.func13, Tryd.ntmps13
    go_wp2
    go_loop [8] (fun i => ∃ k : Nat, k ≤ lb ∧ i = .int .i64 k ∧ Hid (∀ x ∈ bs.take k, come x mark = false)) (fun i => lb - (intOf i).toNat)
    case atStart => exact ⟨0, by omega, rfl, hide2 (by simp)⟩
    case round =>
      obtain ⟨k, hk, rfl, hno⟩ := hrel
      by_cases hkl : k < lb
      · obtain ⟨b, off, rfl, hbl, hcell⟩ := hs.2.2.2 (by omega)
        obtain ⟨c, off2, rfl, hcl, hcell2⟩ := ht.2.2.2 (by omega)
        obtain ⟨o, ho⟩ := some_at hs.1 (i := k) (by omega)
        obtain ⟨x, hx⟩ := some_at ht.1 (i := k) (by omega)
        have q0 : w.cell? ⟨b, off + k, none⟩ = some (.int .u64 o) := by have := hcell k o ho 0 _ rfl; simpa using this
        have q1 : w.cell? ⟨c, off2 + k, none⟩ = some (.int .u64 x) := by have := hcell2 k x hx 0 _ rfl; simpa using this
        have HE := hide2 (take_snoc ho)
        have o0 := hb0 o (List.mem_of_getElem? ho)
        have x0 := he0 x (List.mem_of_getElem? hx)
        have HP1 := hide2 (rpast15_any o mark w o0.1 o0.2)
        have HP2 := hide2 (rpast15_any x mark w x0.1 x0.2)
        have HO := hide2 ho
        have HX := hide2 hx
        have hkl2 : (k : Int) < (lb : Int) := by omega
        clear hcell hcell2 ho hx o0 x0
        cases co : come o mark with
        | true =>
          rw [co] at HP1
          cases cx : come x mark with
          | true =>
            rw [cx] at HP2
            have hk : kpz mark bs es = k := by rw [kpz_some HO.out HX.out co hno.out, if_pos cx]
            have HK := hide2 hk
            clear hk
            go_wp2_with fail
            refine HP1.out.mono ?_
            rintro e w1 ⟨rfl, e1⟩
            subst e1
            clear HP1
            go_wp2_with fail
            refine HP2.out.mono ?_
            rintro e w1 ⟨rfl, e1⟩
            subst e1
            clear HP2
            go_wp2
            go_ret
            exact ⟨by rw [HK.out]; rfl, rfl⟩
          | false =>
            rw [cx] at HP2
            have hk : kpz mark bs es = k + 1 := by rw [kpz_some HO.out HX.out co hno.out, if_neg (by rw [cx]; simp)]
            have HK := hide2 hk
            clear hk
            go_wp2_with fail
            refine HP1.out.mono ?_
            rintro e w1 ⟨rfl, e1⟩
            subst e1
            clear HP1
            go_wp2_with fail
            refine HP2.out.mono ?_
            rintro e w1 ⟨rfl, e1⟩
            subst e1
            clear HP2
            go_wp2
            go_ret
            exact ⟨by rw [HK.out]; go_num, rfl⟩
        | false =>
          rw [co] at HP1
          have HC := hide2 co
          go_wp2_with fail
          refine HP1.out.mono ?_
          rintro e w1 ⟨rfl, e1⟩
          subst e1
          clear HP1
          go_wp2_with fail
          refine HP2.out.mono ?_
          rintro e w1 ⟨rfl, e1⟩
          subst e1
          clear HP2
          go_wp2
          go_round
          case rel => exact ⟨k + 1, by omega, by go_num, hide2 (by rw [HE.out]; intro y hy; rcases List.mem_append.1 hy with e | e; exact hno.out y e; simp at e; rw [e]; exact HC.out)⟩
          case measure => simp [intOf]; omega
      · obtain rfl : k = lb := by omega
        have hk : kpz mark bs es = k := by rw [kpz_none (by rw [← HTK.out]; exact hno.out)]; exact HL.out.symm
        have HK := hide2 hk
        clear hk
        go_wp2
        go_ret
        exact ⟨by rw [HK.out]; rfl, rfl⟩
  · have d1 : ¬ (lb : Int) < (la : Int) := by omega
    have d2 : decide ((lb : Int) < (la : Int)) = false := by simp; omega
    have hnl : la ≤ la ∧ la ≤ lb := by omega
    have HL : Hid (la = min bs.length es.length) := hide2 (by omega)
    have HTK : Hid (bs.take la = bs.take es.length) := hide2 (by
      rw [t1, take_all l1, List.take_of_length_le (by omega)])
    go_enter Tryd.func13, Tryd.ntmps13
    go_wp2
    go_loop [8] (fun i => ∃ k : Nat, k ≤ la ∧ i = .int .i64 k ∧ Hid (∀ x ∈ bs.take k, come x mark = false)) (fun i => la - (intOf i).toNat)
    case atStart => exact ⟨0, by omega, rfl, hide2 (by simp)⟩
    case round =>
      obtain ⟨k, hk, rfl, hno⟩ := hrel
      by_cases hkl : k < la
      · obtain ⟨b, off, rfl, hbl, hcell⟩ := hs.2.2.2 (by omega)
        obtain ⟨c, off2, rfl, hcl, hcell2⟩ := ht.2.2.2 (by omega)
        obtain ⟨o, ho⟩ := some_at hs.1 (i := k) (by omega)
        obtain ⟨x, hx⟩ := some_at ht.1 (i := k) (by omega)
        have q0 : w.cell? ⟨b, off + k, none⟩ = some (.int .u64 o) := by have := hcell k o ho 0 _ rfl; simpa using this
        have q1 : w.cell? ⟨c, off2 + k, none⟩ = some (.int .u64 x) := by have := hcell2 k x hx 0 _ rfl; simpa using this
        have HE := hide2 (take_snoc ho)
        have o0 := hb0 o (List.mem_of_getElem? ho)
        have x0 := he0 x (List.mem_of_getElem? hx)
        have HP1 := hide2 (rpast15_any o mark w o0.1 o0.2)
        have HP2 := hide2 (rpast15_any x mark w x0.1 x0.2)
        have HO := hide2 ho
        have HX := hide2 hx
        have hkl2 : (k : Int) < (la : Int) := by omega
        clear hcell hcell2 ho hx o0 x0
        cases co : come o mark with
        | true =>
          rw [co] at HP1
          cases cx : come x mark with
          | true =>
            rw [cx] at HP2
            have hk : kpz mark bs es = k := by rw [kpz_some HO.out HX.out co hno.out, if_pos cx]
            have HK := hide2 hk
            clear hk
            go_wp2_with fail
            refine HP1.out.mono ?_
            rintro e w1 ⟨rfl, e1⟩
            subst e1
            clear HP1
            go_wp2_with fail
            refine HP2.out.mono ?_
            rintro e w1 ⟨rfl, e1⟩
            subst e1
            clear HP2
            go_wp2
            go_ret
            exact ⟨by rw [HK.out]; rfl, rfl⟩
          | false =>
            rw [cx] at HP2
            have hk : kpz mark bs es = k + 1 := by rw [kpz_some HO.out HX.out co hno.out, if_neg (by rw [cx]; simp)]
            have HK := hide2 hk
            clear hk
            go_wp2_with fail
            refine HP1.out.mono ?_
            rintro e w1 ⟨rfl, e1⟩
            subst e1
            clear HP1
            go_wp2_with fail
            refine HP2.out.mono ?_
            rintro e w1 ⟨rfl, e1⟩
            subst e1
            clear HP2
            go_wp2
            go_ret
            exact ⟨by rw [HK.out]; go_num, rfl⟩
        | false =>
          rw [co] at HP1
          have HC := hide2 co
          go_wp2_with fail
          refine HP1.out.mono ?_
          rintro e w1 ⟨rfl, e1⟩
          subst e1
          clear HP1
          go_wp2_with fail
          refine HP2.out.mono ?_
          rintro e w1 ⟨rfl, e1⟩
          subst e1
          clear HP2
          go_wp2
          go_round
          case rel => exact ⟨k + 1, by omega, by go_num, hide2 (by rw [HE.out]; intro y hy; rcases List.mem_append.1 hy with e | e; exact hno.out y e; simp at e; rw [e]; exact HC.out)⟩
          case measure => simp [intOf]; omega
      · obtain rfl : k = la := by omega
        have hk : kpz mark bs es = k := by rw [kpz_none (by rw [← HTK.out]; exact hno.out)]; exact HL.out.symm
        have HK := hide2 hk
        clear hk
        go_wp2
        go_ret
        exact ⟨by rw [HK.out]; rfl, rfl⟩
end
end Go.Proofs.YtfhcphgjaobnoaaDoor
