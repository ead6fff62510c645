/-
  What Take answers.
-/
import Derived.Test.YthfcjfhaoabdeaaGreatDoorRz10
import Derived.Test.YthfcjfhaoabdeaaGreatDoorRz9
import Derived.ProofKit
import Derived.OpenShut
import Derived.Deep.QuietTactic
import Derived.BigQuiet
set_option linter.unusedVariables false
set_option linter.unusedSimpArgs false
namespace Go.Proofs.YthfcjfhaoabdeaaGreatDoor
open Go.RowKit


theorem ret_res {rest : List Int} {a : Int} {n n' p' : Int} {k : Nat} (h : dec 0 0 rest = some (n, k)) (h1 : n' = n) (h2 : p' = a + k) :
    Ending.returned (.tuple #[.int .u64 n', .int .i64 p', .bool true]) = .returned (tkVal ((dec 0 0 rest).map fun p => (p.1, a + p.2))) := by rw [h, h1, h2]; rfl
theorem p9 : (128 : Int) ^ 9 = 9223372036854775808 := by decide
theorem pos9 (a : Nat) (h : a + 10 ≤ 9223372036854775807) : wrap64 (wrap64 ((a : Int) + 9) + 1) = (a : Int) + ((9 + 1 : Nat) : Int) := by
  unfold wrap64
  omega
theorem posk (a k : Nat) (h : a + k + 1 ≤ 9223372036854775807) : wrap64 (wrap64 ((a : Int) + (k : Int)) + 1) = (a : Int) + ((k + 1 : Nat) : Int) := by
  unfold wrap64
  omega
theorem hide {p : Prop} (h : p) : Hid p := h

set_option maxHeartbeats 1000000 in
theorem take_any (ao : Option Addr) (len cap : Nat) (xs : List Int) (at_ : Int) (w : World) (h : Sl w ao len cap xs) :
    Calls Tryz.prog 187 #[.slice ao len cap, .int .i64 at_] w fun e w' => e = .returned (tkVal (tk xs at_)) ∧ w' = w := by
  have hx := h.1
  by_cases hn : at_ < 0
  · have ht : tk xs at_ = none := by unfold tk; rw [if_pos (.inl hn)]
    rw [ht]
    unfold tkVal
    go_enter Tryz.func187, Tryz.ntmps187
    go_wp2
    go_ret3
    exact ⟨rfl, rfl⟩
  by_cases hg : (len : Int) ≤ at_
  · have ht : tk xs at_ = none := by unfold tk; rw [if_pos (.inr (by omega))]
    rw [ht]
    unfold tkVal
    go_enter Tryz.func187, Tryz.ntmps187
    go_wp2
    go_ret3
    exact ⟨rfl, rfl⟩
  obtain ⟨a, rfl⟩ : ∃ a : Nat, at_ = (a : Int) := ⟨at_.toNat, by omega⟩
  have hlt : (a : Int) < (len : Int) := by omega
  have ht : tk xs a = (dec 0 0 (xs.drop a)).map fun p => (p.1, (a : Int) + p.2) := by unfold tk; rw [if_neg (by omega)]; rfl
  rw [ht]
  obtain ⟨a1, hcut, hsl⟩ := h.from (P := Tryz.prog) 82 Tryz.underlying82 Tryz.size5 a (by omega)
  generalize hrest : xs.drop a = rest at *
  obtain ⟨b, off, rfl, _, hcell⟩ := hsl.2.2.2.2.2 (by omega)
  have hlen : (len : Int) ≤ 9223372036854775807 := by have := h.2.1; have := h.2.2.1; unfold maxLen at this; omega
  obtain ⟨m, hm⟩ : ∃ m, m = len - a := ⟨_, rfl⟩
  have hbyt := hsl.2.2.2.1
  have hrl := hsl.1
  clear hsl h hrest ht hx hn hg
  rw [← hm] at hcut hcell hrl
  have HM : Hid (m = len - a) := hm
  have hm0 : (0 : Int) < (m : Int) := by omega
  clear hm
  have hd : decide ((a : Int) < 0) = false := by simp
  have hd2 : ¬ (a : Int) < 0 := by omega
  have hd3 : ¬ (len : Int) ≤ (a : Int) := by omega
  have hcase : (m : Int) ≤ 10 ∨ 10 < (m : Int) := by omega
  rcases hcase with hm10 | hm10
  all_goals
    go_enter Tryz.func187, Tryz.ntmps187
    go_wp2
    go_loop [8, 25] (fun n i => ∃ (k : Nat) (acc : Int), k ≤ 10 ∧ k ≤ m ∧ i = .int .i64 k ∧ n = .int .u64 acc ∧ DcK rest k acc) (fun _ i => 10 - (intOf i).toNat)
    case atStart => exact ⟨0, 0, by omega, by omega, rfl, rfl, DcK.start _⟩
    case round =>
      obtain ⟨k, acc, hk, hkm, rfl, rfl, hD⟩ := hrel
      by_cases hk2 : k < 10 ∧ k < m
      · obtain ⟨hk3, hk4⟩ := hk2
        obtain ⟨x, hx⟩ : ∃ x, x = rest.getD k 0 := ⟨_, rfl⟩
        have hc : w.cell? ⟨b, off + k, none⟩ = some (.int .u8 x) := by rw [hx]; exact hcell k hk4
        have hxb := hbyt.getD k
        rw [← hx] at hxb
        obtain ⟨hx0, hx1⟩ := hxb
        have HX : Hid (x = rest.getD k 0) := hx
        have hlk : k < rest.length := by omega
        clear hx hcell hcut
        by_cases h9 : k = 9
        · subst h9
          by_cases h1x : 1 < x
          · have hres := hide (hD.big hlk HX.out rfl h1x)
            go_wp2
            go_ret3
            exact ⟨by rw [hres.out]; rfl, rfl⟩
          · have hor := or_shl acc x 9 hD.2.1 hD.2.2 hx0 hx1 (.inr ⟨rfl, by omega⟩)
            have hor2 : bits BinOp.or IntKind.u64 acc (IntKind.u64.wrap (IntKind.u64.wrap (bits BinOp.and IntKind.u8 x 127) * 9223372036854775808)) = acc + x % 128 * 128 ^ 9 := hor
            clear hor
            by_cases hz : x = 0
            · have hres := hide (hD.zero hlk HX.out (by omega) hz (by omega))
              clear HX hlk
              subst hz
              go_wp2
              go_ret3
              exact ⟨by rw [hres.out]; rfl, rfl⟩
            · have hres := hide (hD.last hlk HX.out (.inr (by omega)) (by omega) (by omega) (by omega))
              go_wp2
              go_ret3
              have hm := HM.out
              exact ⟨ret_res hres.out (by first | (with_reducible rfl) | (rw [p9]) | (simp; done)) (by first | exact pos9 a (by omega) | exact posk a _ (by omega) | omega), rfl⟩
        · have hor := or_shl acc x k hD.2.1 hD.2.2 hx0 hx1 (.inl (by omega))
          have h9' : ¬ (k : Int) = 9 := by omega
          by_cases h128 : 128 ≤ x
          · have hD2 := hD.more hlk HX.out (by omega) h128 hx1
            go_wp2
            go_round
            case rel => exact ⟨k + 1, _, by omega, by omega, by go_num, rfl, hD2⟩
            case measure => simp [intOf]; omega
          · by_cases hz : x = 0
            · by_cases hk0 : 0 < k
              · have hres := hide (hD.zero hlk HX.out (by omega) hz hk0)
                clear HX hlk
                subst hz
                go_wp2
                go_ret3
                exact ⟨by rw [hres.out]; rfl, rfl⟩
              · have hres := hide (hD.last hlk HX.out (.inl (by omega)) (by omega) (by omega) (by omega))
                have hk00 : ¬ (0 : Int) < (k : Int) := by omega
                have hor0 := or_shl acc 0 k hD.2.1 hD.2.2 (by decide) (by decide) (.inl (by omega))
                clear HX hlk
                subst hz
                go_wp2
                go_ret3
                have hm := HM.out
                exact ⟨ret_res hres.out (by first | (with_reducible rfl) | (rw [p9]) | (simp; done)) (by first | exact pos9 a (by omega) | exact posk a _ (by omega) | omega), rfl⟩
            · have hres := hide (hD.last hlk HX.out (.inl (by omega)) (by omega) (by omega) (by omega))
              go_wp2
              go_ret3
              have hm := HM.out
              exact ⟨ret_res hres.out (by first | (with_reducible rfl) | (rw [p9]) | (simp; done)) (by first | exact pos9 a (by omega) | exact posk a _ (by omega) | omega), rfl⟩
      · have hres : dec 0 0 rest = none := by
          by_cases h10 : k = 10
          · exact hD.ten (by omega)
          · exact hD.short (by omega)
        replace hres := hide hres
        clear hcell hcut
        have hnot1 : ¬ (k : Int) < (m : Int) ∨ ¬ (k : Int) < 10 := by omega
        go_wp2
        go_ret3
        exact ⟨by rw [hres.out]; rfl, rfl⟩
end Go.Proofs.YthfcjfhaoabdeaaGreatDoor

/-
  What PutText and TakeText do.
-/
set_option linter.unusedVariables false
set_option linter.unusedSimpArgs false
namespace Go.Proofs.YthfcjfhaoabdeaaGreatDoor
open Go.RowKit

set_option maxRecDepth 100000 in
set_option maxHeartbeats 400000 in
/-- PutText: the bytes, the text's length as a number, the text. -/
theorem putText_any (ao : Option Addr) (len cap : Nat) (xs : List Int) (s : ByteArray) (w : World) (h : Sl w ao len cap xs) (hl : len + s.size + 200 ≤ 140737488355328) :
    Calls Tryz.prog 146 #[.slice ao len cap, .string s] w fun e w' => ∃ v', e = .returned v' ∧ Own w' w.heap.size v' (xs ++ enc s.size ++ sb s) ∧ Below w.heap.size w w' := by
  obtain ⟨i0, hi, hz0, hz1, hz2⟩ := info_parts Tryz.infoU8
  have hs63 : (s.size : Int) ≤ 9223372036854775807 := by omega
  have hx := h.1
  have hel := enc_len s.size
  generalize hA : xs ++ enc s.size ++ sb s = all
  replace hA := hide hA
  go_enter Tryz.func146, Tryz.ntmps146
  go_wp2_with fail
  refine (size_any (s.size : Int) w (by omega) (by omega)).mono ?_
  rintro e w' ⟨⟨r, rfl, hr⟩, rfl⟩
  go_wp2_with fail
  rw [show ((r : Int) + (s.size : Int)) = ((r + s.size : Nat) : Int) from by omega]
  refine (room_any ao len cap xs (r + s.size) _ h (by omega)).mono ?_
  rintro e w1 ⟨rfl, hown, hb1⟩
  have hs1 := hb1.size
  go_wp2_with fail
  refine (app_any _ _ xs (s.size : Int) w1 hown hs1 (by omega) (by omega) (by omega)).mono ?_
  rintro e w2 ⟨v2, rfl, hown2, hb2⟩
  have hb : Below w'.heap.size w' w2 := hb1.trans hb2
  have hs2 := hb.size
  clear hown hb1 hb2 hs1
  go_wp2_with (at_builtin; refine wpList_append_str rfl _ _ 82 rfl w'.heap.size i0 Tryz.underlying82 Tryz.underlying9 hi hz0 hz1 hz2 v2 _ rfl hown2 s rfl (by rw [List.length_append]; omega) hs2 ?_)
  intro v3 w3 hown3 hb3
  have hb4 := hb.trans hb3
  rw [← List.append_assoc, hA.out] at hown3
  clear hown2 hb hb3 hs2
  go_wp2
  go_ret
  exact ⟨_, rfl, hown3, hb4⟩

/-- What TakeText tells. -/
def tt (xs : List Int) (at_ most : Int) : Option (List Int × Int) :=
  match tk xs at_ with
  | none => none
  | some p => if most < 0 ∨ most < p.1 ∨ (xs.length : Int) - p.2 < p.1 then none else some ((xs.take (p.2 + p.1).toNat).drop p.2.toNat, p.2 + p.1)
def ttVal : Option (List Int × Int) → Value
  | none => .tuple #[.string ⟨#[]⟩, .int .i64 0, .bool false]
  | some p => .tuple #[.string (strOfNums p.1), .int .i64 p.2, .bool true]

set_option maxRecDepth 100000 in
set_option maxHeartbeats 1000000 in
theorem takeText_any (ao : Option Addr) (len cap : Nat) (xs : List Int) (at_ most : Int) (w : World) (h : Sl w ao len cap xs) (hm0 : -9223372036854775808 ≤ most) (hm1 : most ≤ 9223372036854775807) :
    Calls Tryz.prog 147 #[.slice ao len cap, .int .i64 at_, .int .i64 most] w fun e w' => e = .returned (ttVal (tt xs at_ most)) ∧ w' = w := by
  have hx := h.1
  have hlen : (len : Int) ≤ 9223372036854775807 := by have := h.2.1; have := h.2.2.1; unfold maxLen at this; omega
  cases ht : tk xs at_ with
  | none =>
    have hr : tt xs at_ most = none := by unfold tt; rw [ht]
    rw [hr]
    unfold ttVal
    go_enter Tryz.func147, Tryz.ntmps147
    go_wp2_with fail
    refine (take_any ao len cap xs at_ w h).mono ?_
    rintro e w1 ⟨rfl, rfl⟩
    rw [ht]
    unfold tkVal
    clear ht
    go_wp2
    go_ret3
    exact ⟨rfl, rfl⟩
  | some p =>
    obtain ⟨n, next⟩ := p
    obtain ⟨a, b, rfl, rfl, hab, hb, hn0, hn1, henc⟩ := tk_spec h.2.2.2.1 ht
    have hr : tt xs a most = if most < 0 ∨ most < n ∨ (len : Int) - b < n then none else some ((xs.take ((b : Int) + n).toNat).drop b, (b : Int) + n) := by
      unfold tt; rw [ht, ← hx]; rfl
    have hsub : (0 : Int) ≤ (len : Int) - (b : Int) := by omega
    have hsub1 : (len : Int) - (b : Int) ≤ 9223372036854775807 := by omega
    have hbl : (b : Int) ≤ (len : Int) := by omega
    have hst := fun (w : World) => take_any ao len cap xs a w
    clear henc
    by_cases c1 : most < 0
    · rw [hr, if_pos (.inl c1)]
      unfold ttVal
      go_enter Tryz.func147, Tryz.ntmps147
      go_wp2_with fail
      refine (hst w h).mono ?_
      rintro e w1 ⟨rfl, rfl⟩
      rw [ht]
      unfold tkVal
      clear ht hr hst
      go_wp2
      go_ret3
      exact ⟨rfl, rfl⟩
    by_cases c2 : most < n
    · rw [hr, if_pos (.inr (.inl c2))]
      unfold ttVal
      go_enter Tryz.func147, Tryz.ntmps147
      go_wp2_with fail
      refine (hst w h).mono ?_
      rintro e w1 ⟨rfl, rfl⟩
      rw [ht]
      unfold tkVal
      clear ht hr hst
      go_wp2
      go_ret3
      exact ⟨rfl, rfl⟩
    by_cases c3 : (len : Int) - b < n
    · rw [hr, if_pos (.inr (.inr c3))]
      unfold ttVal
      go_enter Tryz.func147, Tryz.ntmps147
      go_wp2_with fail
      refine (hst w h).mono ?_
      rintro e w1 ⟨rfl, rfl⟩
      rw [ht]
      unfold tkVal
      clear ht hr hst
      go_wp2
      go_ret3
      exact ⟨rfl, rfl⟩
    · rw [hr, if_neg (by omega)]
      obtain ⟨m, rfl⟩ : ∃ m : Nat, n = (m : Int) := ⟨n.toNat, by omega⟩
      obtain ⟨ac, hcut, hslC⟩ := h.part (P := Tryz.prog) 82 Tryz.underlying82 Tryz.size5 b (b + m) (by omega) (by omega)
      have hstr := hslC.str (P := Tryz.prog) 82 Tryz.underlying82 Tryz.underlying5 Tryz.underlying9
      have e1 : ((b + m : Nat) : Int) = (b : Int) + (m : Int) := by omega
      rw [e1] at hcut
      rw [show ((b : Int) + (m : Int)).toNat = b + m from by omega]
      generalize hys : (xs.take (b + m)).drop b = ys at *
      have e2 : b + m - b = m := by omega
      rw [e2] at hcut hstr
      have hsum : (b : Int) + (m : Int) ≤ 9223372036854775807 := by omega
      have hm63 : (m : Int) ≤ 9223372036854775807 := by omega
      unfold ttVal
      go_enter Tryz.func147, Tryz.ntmps147
      go_wp2_with fail
      refine (hst w h).mono ?_
      rintro e w1 ⟨rfl, rfl⟩
      rw [ht]
      unfold tkVal
      clear ht hr hst hslC e1 e2 hys
      go_wp2
      go_ret3
      exact ⟨rfl, rfl⟩
end Go.Proofs.YthfcjfhaoabdeaaGreatDoor

/-
  Records as plain data, their bytes, which are right, and how bytes are read: no program in sight.
-/
set_option linter.unusedVariables false
set_option linter.unusedSimpArgs false
namespace Go.Proofs.YthfcjfhaoabdeaaGreatDoor
open Go.RowKit

/-! ### Texts that are below others -/
def slt (a b : ByteArray) : Bool := Op.bytesLess a.toList b.toList

theorem less_flip : ∀ x y : List UInt8, (Op.bytesLess x y || (x == y)) = !Op.bytesLess y x
  | [], [] => rfl
  | [], b :: y => by simp [Op.bytesLess]
  | a :: x, [] => by simp [Op.bytesLess]
  | a :: x, b :: y => by
    have ih := less_flip x y
    by_cases h1 : a < b
    · have h2 : ¬ b < a := UInt8.lt_asymm h1
      have h3 : ¬ b = a := fun e => by subst e; exact UInt8.lt_irrefl _ h1
      have h4 : (b == a) = false := by simpa using h3
      simp [Op.bytesLess, h1, h2, h4]
    · by_cases h2 : b < a
      · have h3 : ¬ a = b := fun e => by subst e; exact UInt8.lt_irrefl _ h2
        have h4 : (a == b) = false := by simpa using h3
        simp [Op.bytesLess, h1, h2, h4, h3]
      · have h3 : a = b := UInt8.le_antisymm (UInt8.not_lt.1 h2) (UInt8.not_lt.1 h1)
        subst h3
        simpa [Op.bytesLess, h1] using ih
theorem slt_flip (a b : ByteArray) : (slt a b || (a.toList == b.toList)) = !slt b a := less_flip _ _
theorem slt_empty (b : ByteArray) : slt ⟨#[]⟩ b = decide (1 ≤ b.size) := by
  unfold slt
  rw [ByteArray.toList_eq, ByteArray.toList_eq]
  have e : b.size = b.data.toList.length := by rw [Array.length_toList]; rfl
  rw [e]
  cases b.data.toList with
  | nil => rfl
  | cons x r => simp [Op.bytesLess]
/-! ### The records -/
structure Wr where
  key : ByteArray
  val : ByteArray
  gone : Bool
structure Pr where
  num : Int
  frm : Int
  til : Int
structure Cm where
  time : Int
  ws : List Wr
structure Rw where
  key : ByteArray
  val : ByteArray
  time : Int
structure Gn where
  key : ByteArray
  time : Int
structure Mf where
  time : Int
  log : Int
  ps : List Pr

def isK (s : ByteArray) : Bool := decide (1 ≤ s.size) && decide (s.size ≤ 16)
def isV (s : ByteArray) : Bool := decide (s.size ≤ 64)
def isT (t : Int) : Bool := decide (0 ≤ t) && decide (t ≤ 1099511627775)
def okW (w : Wr) : Bool := isK w.key && isV w.val && (!w.gone || decide (w.val.size = 0))
/-- Writes by rising keys, the first above a text. -/
def upW : ByteArray → List Wr → Bool
  | _, [] => true
  | a, w :: r => okW w && slt a w.key && upW w.key r
def rightC (c : Cm) : Bool := isT c.time && decide (c.ws.length ≤ 64) && upW ⟨#[]⟩ c.ws
def rightR (r : Rw) : Bool := isK r.key && isV r.val && isT r.time
/-! ### Their bytes -/
def tx (s : ByteArray) : List Int := enc s.size ++ sb s
def wb (w : Wr) : List Int := if w.gone then 1 :: tx w.key else 0 :: (tx w.key ++ tx w.val)
def pb (p : Pr) : List Int := enc p.num ++ (enc p.frm ++ enc p.til)
def cmb (c : Cm) : List Int := 67 :: (enc c.time ++ (enc c.ws.length ++ c.ws.flatMap wb))
def rb (r : Rw) : List Int := 82 :: (tx r.key ++ (tx r.val ++ enc r.time))
def gb (g : Gn) : List Int := 71 :: (tx g.key ++ enc g.time)
def mb (m : Mf) : List Int := 77 :: (enc m.time ++ (enc m.log ++ (enc m.ps.length ++ m.ps.flatMap pb)))

theorem tx_byt (s : ByteArray) : Byt (tx s) := (enc_byt _ (by omega)).append (sb_byt s)
theorem tx_len (s : ByteArray) : (tx s).length ≤ 10 + s.size := by
  have := enc_len s.size
  simp only [tx, List.length_append, sb_length]
  omega
theorem wb_len (w : Wr) (h : okW w = true) : (wb w).length ≤ 101 := by
  simp only [okW, isK, isV, Bool.and_eq_true, decide_eq_true_eq] at h
  have h1 := tx_len w.key
  have h2 := tx_len w.val
  unfold wb
  split <;> simp <;> omega
theorem flat_len {α : Type} (f : α → List Int) (l : List α) (k : Nat) (h : ∀ x ∈ l, (f x).length ≤ k) : (l.flatMap f).length ≤ l.length * k := by
  induction l with
  | nil => simp
  | cons x r ih =>
    rw [List.flatMap_cons, List.length_append, List.length_cons, Nat.succ_mul]
    have h1 := h x (List.mem_cons_self ..)
    have h2 := ih fun y hy => h y (List.mem_cons_of_mem _ hy)
    omega
theorem upW_mem : ∀ (l : List Wr) (a : ByteArray), upW a l = true → ∀ w ∈ l, okW w = true
  | [], a, h, w, hw => by cases hw
  | x :: r, a, h, w, hw => by
    simp only [upW, Bool.and_eq_true] at h
    rcases List.mem_cons.1 hw with rfl | hw
    · exact h.1.1
    · exact upW_mem r x.key h.2 w hw
/-! ### Reading -/
/-- Where a reader stands: at a place, or at its first fault. -/
inductive Rs where
  | at (n : Nat)
  | bad (p : Nat)
def Rs.pos : Rs → Nat
  | .at n => n
  | .bad n => n
def Rs.isBad : Rs → Bool
  | .at _ => false
  | .bad _ => true

def rnum (xs : List Int) (most : Int) : Rs → Int × Rs
  | .bad p => (0, .bad p)
  | .at n => match tk xs n with
    | none => (0, .bad n)
    | some q => if q.1 ≤ most then (q.1, .at q.2.toNat) else (0, .bad n)
def rtxt (xs : List Int) (most : Int) : Rs → ByteArray × Rs
  | .bad p => (⟨#[]⟩, .bad p)
  | .at n => match tt xs n most with
    | none => (⟨#[]⟩, .bad n)
    | some q => (strOfNums q.1, .at q.2.toNat)
def rmark (xs : List Int) (lo hi : Int) : Rs → Int × Rs
  | .bad p => (0, .bad p)
  | .at n => if n < xs.length ∧ lo ≤ xs.getD n 0 ∧ xs.getD n 0 ≤ hi then (xs.getD n 0, .at (n + 1)) else (0, .bad n)
def rwr (xs : List Int) (s : Rs) : Wr × Rs :=
  if (rmark xs 0 1 s).1 = 1 then (⟨(rtxt xs 16 (rmark xs 0 1 s).2).1, ⟨#[]⟩, true⟩, (rtxt xs 16 (rmark xs 0 1 s).2).2)
  else (⟨(rtxt xs 16 (rmark xs 0 1 s).2).1, (rtxt xs 64 (rtxt xs 16 (rmark xs 0 1 s).2).2).1, false⟩, (rtxt xs 64 (rtxt xs 16 (rmark xs 0 1 s).2).2).2)
def rpr (xs : List Int) (s : Rs) : Pr × Rs :=
  (⟨(rnum xs 2147483647 s).1, (rnum xs 1099511627775 (rnum xs 2147483647 s).2).1, (rnum xs 1099511627775 (rnum xs 1099511627775 (rnum xs 2147483647 s).2).2).1⟩, (rnum xs 1099511627775 (rnum xs 1099511627775 (rnum xs 2147483647 s).2).2).2)
def rlist {α : Type} (f : Rs → α × Rs) : Nat → Rs → List α × Rs
  | 0, s => ([], s)
  | k + 1, s => ((f s).1 :: (rlist f k (f s).2).1, (rlist f k (f s).2).2)
theorem rlist_snoc {α : Type} (f : Rs → α × Rs) : ∀ (k : Nat) (s : Rs), rlist f (k + 1) s = ((rlist f k s).1 ++ [(f (rlist f k s).2).1], (f (rlist f k s).2).2)
  | 0, s => rfl
  | k + 1, s => by
    have ih := rlist_snoc f k (f s).2
    rw [show rlist f (k + 1 + 1) s = ((f s).1 :: (rlist f (k + 1) (f s).2).1, (rlist f (k + 1) (f s).2).2) from rfl, ih]
    rfl
theorem rlist_len {α : Type} (f : Rs → α × Rs) : ∀ (k : Nat) (s : Rs), (rlist f k s).1.length = k
  | 0, s => rfl
  | k + 1, s => by
    rw [show (rlist f (k + 1) s).1 = (f s).1 :: (rlist f k (f s).2).1 from rfl, List.length_cons, rlist_len f k]

theorem rnum_bd {xs : List Int} (hb : Byt xs) (most : Int) (h0 : 0 ≤ most) (s : Rs) : 0 ≤ (rnum xs most s).1 ∧ (rnum xs most s).1 ≤ most := by
  cases s with
  | bad p => exact ⟨Int.le_refl _, h0⟩
  | «at» n =>
    unfold rnum
    simp only []
    cases h : tk xs n with
    | none => exact ⟨Int.le_refl _, h0⟩
    | some q =>
      obtain ⟨v, nx⟩ := q
      obtain ⟨a, b, _, _, _, _, h1, _⟩ := tk_spec hb h
      simp only []
      split
      · exact ⟨h1, by assumption⟩
      · exact ⟨Int.le_refl _, h0⟩

/-- How the end is judged: the place, and the error. -/
def verd (s : Rs) (len : Nat) (right : Bool) : Int × Int :=
  match s with
  | .bad p => (p, 61)
  | .at n => if n < len then (n, 61) else if right then (0, 0) else (0, 60)

/-- What is read of a commit, ahead of the judgement. -/
def sC (xs : List Int) (kind : Int) : Rs := (rmark xs kind kind (.at 0)).2
def pC (xs : List Int) : Cm × Rs :=
  (⟨(rnum xs 1099511627775 (sC xs 67)).1, (rlist (rwr xs) (rnum xs 64 (rnum xs 1099511627775 (sC xs 67)).2).1.toNat (rnum xs 64 (rnum xs 1099511627775 (sC xs 67)).2).2).1⟩,
    (rlist (rwr xs) (rnum xs 64 (rnum xs 1099511627775 (sC xs 67)).2).1.toNat (rnum xs 64 (rnum xs 1099511627775 (sC xs 67)).2).2).2)
def vC (xs : List Int) : Int × Int := verd (pC xs).2 xs.length (rightC (pC xs).1)
def oC (xs : List Int) : Cm := if (vC xs).2 = 0 then (pC xs).1 else ⟨0, []⟩
end Go.Proofs.YthfcjfhaoabdeaaGreatDoor
