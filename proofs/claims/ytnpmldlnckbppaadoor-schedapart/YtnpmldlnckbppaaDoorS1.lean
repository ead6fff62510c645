/-
  Programs that come in; which may be run: mayRun of the program.
-/
import Derived.Test.YtnpmldlnckbppaaDoorC9
import Derived.Test.YtnpmldlnckbppaaDoorCOpen
set_option linter.unusedVariables false
set_option linter.unusedSimpArgs false
namespace Go.Proofs.YtnpmldlnckbppaaDoor
open Go.RowKit

/-- A program as it comes in: its slice, and what it reads. -/
structure PrR where
  ao : Option Addr
  len : Nat
  cap : Nat
  ops : List OpR
def PrR.cells (p : PrR) : List Value := [.slice p.ao p.len p.cap]
/-- Programs in memory. -/
structure Progs (w : World) (ao : Option Addr) (len cap : Nat) (Ps : List PrR) : Prop where
  out : Seq 1 PrR.cells w ao len cap Ps
  ins : ∀ p ∈ Ps, Seq 4 OpR.cells w p.ao p.len p.cap p.ops ∧ ∀ o ∈ p.ops, o.ok
theorem Progs.keep {w w' : World} {ao : Option Addr} {len cap : Nat} {Ps : List PrR} (h : Progs w ao len cap Ps) (hb : Below w.heap.size w w') : Progs w' ao len cap Ps :=
  ⟨h.out.keep hb, fun p hp => ⟨(h.ins p hp).1.keep hb, (h.ins p hp).2⟩⟩
theorem Progs.at {w : World} {ao : Option Addr} {len cap : Nat} {Ps : List PrR} (h : Progs w ao len cap Ps) {i : Nat} {p : PrR} (hp : Ps[i]? = some p) : ∃ b off, ao = some ⟨b, off, none⟩ ∧ b < w.heap.size ∧ w.cell? ⟨b, off + i, none⟩ = some (.slice p.ao p.len p.cap) := by
  have hi : i < Ps.length := (List.getElem?_eq_some_iff.1 hp).1
  obtain ⟨h1, h2, h3, h4⟩ := h.out
  obtain ⟨b, off, e, hb, hc⟩ := h4 (by omega)
  refine ⟨b, off, e, hb, ?_⟩
  have := hc i p hp 0 _ rfl
  simpa using this

/-- May an operation not be? -/
def bad (n : Nat) (o : OpR) : Bool := decide (o.k < 1) || (decide (4 < o.k) || (decide (o.c < 0) || decide ((n : Int) ≤ o.c)))
/-- May programs be run? -/
def right (size : Int) (Ps : List PrR) : Bool := decide (1 ≤ size) && (decide (size ≤ 65536) && (decide (Ps.length ≤ 16) && Ps.all fun p => decide (p.ops.length ≤ 65536) && p.ops.all fun o => !bad size.toNat o))

set_option maxRecDepth 100000 in
set_option maxHeartbeats 1000000 in
theorem bad_any (W : World) (z n : Nat) (o : OpR) (hzl : z < W.heap.size) (hz : W.cell? ⟨z, 0, none⟩ = some (.int .i64 (n : Int))) :
    Calls Tryd.prog 31 (#[opV o.k o.c o.a o.b] ++ #[.pointer (some ⟨z, 0, none⟩)]) W fun e w' => e = .returned (.bool (bad n o)) ∧ w' = W.alloc (opC o.k o.c o.a o.b) := by
  obtain ⟨k, c, a, b⟩ := o
  unfold bad
  by_cases h1 : k < 1
  · have t1 : decide (k < 1) = true := by simpa using h1
    go_enter Tryd.func31, Tryd.ntmps31
    go_wp2
    go_ret
    exact ⟨by simp [h1], rfl⟩
  · have t1 : decide (k < 1) = false := by simpa using h1
    by_cases h2 : 4 < k
    · have t2 : decide (4 < k) = true := by simpa using h2
      go_enter Tryd.func31, Tryd.ntmps31
      go_wp2
      go_ret
      exact ⟨by simp [h2], rfl⟩
    · have t2 : decide (4 < k) = false := by simpa using h2
      by_cases h3 : c < 0
      · have t3 : decide (c < 0) = true := by simpa using h3
        go_enter Tryd.func31, Tryd.ntmps31
        go_wp2
        go_ret
        exact ⟨by simp [h3], rfl⟩
      · have t3 : decide (c < 0) = false := by simpa using h3
        have e : (decide (k < 1) || (decide (4 < k) || (decide (c < 0) || decide ((n : Int) ≤ c)))) = decide ((n : Int) ≤ c) := by rw [t1, t2, t3]; rfl
        simp only [e]
        generalize hd : decide ((n : Int) ≤ c) = d
        go_enter Tryd.func31, Tryd.ntmps31
        go_wp2
        go_ret
        exact ⟨by simp [hd], rfl⟩

theorem eg_bad : ∀ args w, (callFunc 31 args).run Tryd.prog w = .ok (.enter 31 args) w := enters_of Tryd.func31 (by kernel_rfl) rfl

set_option maxRecDepth 100000 in
set_option maxHeartbeats 2000000 in
theorem index_any (w : World) (z n : Nat) (ao : Option Addr) (len cap : Nat) (os : List OpR) (hs : Seq 4 OpR.cells w ao len cap os) (hzl : z < w.heap.size) (hz : w.cell? ⟨z, 0, none⟩ = some (.int .i64 (n : Int))) :
    Calls Tryd.prog 40 #[.slice ao len cap, .func (.func 31) #[] #[.pointer (some ⟨z, 0, none⟩)]] w fun e w' => (∃ r : Int, e = .returned (.int .i64 r) ∧ decide (0 ≤ r) = os.any (bad n)) ∧ Below w.heap.size w w' := by
  have eg := eg_bad
  have hcap := hs.2.1
  have hmax := hs.2.2.1
  unfold maxLen at hmax
  go_enter Tryd.func40, Tryd.ntmps40
  go_wp2
  go_loopw [8] (fun i wr => ∃ k : Nat, k ≤ len ∧ i = .int .i64 k ∧ (os.take k).any (bad n) = false ∧ Below w.heap.size w wr) (fun i _ => len - (intOf i).toNat)
  case atStart => exact ⟨0, by omega, rfl, rfl, Below.refl _ _⟩
  case round =>
    obtain ⟨k, hk, rfl, hno, hB⟩ := hrel
    by_cases hkl : k < len
    · obtain ⟨b, off, rfl, hbl, hcell⟩ := (hs.keep hB).2.2.2 (by omega)
      obtain ⟨o, ho⟩ := some_at hs.1 hkl
      have q0 : wr.cell? ⟨b, off + k * 4, none⟩ = some (.int .i64 o.k) := hcell k o ho 0 _ rfl
      have q1 := hcell k o ho 1 _ rfl
      have q2 := hcell k o ho 2 _ rfl
      have q3 := hcell k o ho 3 _ rfl
      have hsz := hB.size
      have HD := hide2 (bad_any wr z n o (by omega) ((hB.cell (p := ⟨z, 0, none⟩) hzl).trans hz))
      have e1 : (os.take (k + 1)).any (bad n) = ((os.take k).any (bad n) || bad n o) := by
        have hk2 : k < os.length := by rw [hs.1]; exact hkl
        have : os[k] = o := by rw [List.getElem?_eq_getElem hk2] at ho; exact Option.some.inj ho
        rw [← List.take_append_getElem hk2, this]; simp
      have hmem : o ∈ os := List.mem_of_getElem? ho
      have hBa : Below w.heap.size w (wr.alloc (opC o.k o.c o.a o.b)) := hB.alloc hB.size _
      have E1 := hide2 e1
      have HO := hide2 hno
      clear hcell e1 hno
      have hkl2 : (k : Int) < (len : Int) := by omega
      go_wp2_with fail
      refine HD.out.mono ?_
      rintro e w' ⟨rfl, rfl⟩
      clear HD q0 q1 q2 q3
      cases hb : bad n o with
      | true =>
        go_wp2
        go_ret
        refine ⟨⟨_, rfl, ?_⟩, hBa⟩
        have : os.any (bad n) = true := List.any_eq_true.2 ⟨o, hmem, hb⟩
        rw [this]
        simp
      | false =>
        go_wp2
        go_roundw
        case rel => exact ⟨k + 1, by omega, by go_num, by rw [E1.out, HO.out, hb]; rfl, hBa⟩
        case measure => simp [intOf]; omega
    · obtain rfl : k = len := by omega
      have : os.take k = os := by rw [← hs.1]; exact List.take_length
      rw [this] at hno
      have HO := hide2 hno
      clear hno
      go_wp2
      go_ret
      exact ⟨⟨_, rfl, by rw [HO.out]; rfl⟩, hB⟩

set_option maxRecDepth 100000 in
set_option maxHeartbeats 1000000 in
theorem contains_any (w : World) (z n : Nat) (ao : Option Addr) (len cap : Nat) (os : List OpR) (hs : Seq 4 OpR.cells w ao len cap os) (hzl : z < w.heap.size) (hz : w.cell? ⟨z, 0, none⟩ = some (.int .i64 (n : Int))) :
    Calls Tryd.prog 32 #[.slice ao len cap, .func (.func 31) #[] #[.pointer (some ⟨z, 0, none⟩)]] w fun e w' => e = .returned (.bool (os.any (bad n))) ∧ Below w.heap.size w w' := by
  have HI := hide2 (index_any w z n ao len cap os hs hzl hz)
  clear hs hz
  go_enter Tryd.func32, Tryd.ntmps32
  go_wp2_with fail
  refine HI.out.mono ?_
  rintro e w' ⟨⟨r, rfl, hr⟩, hB⟩
  clear HI
  go_wp2
  go_ret
  exact ⟨rfl, hB⟩

set_option maxRecDepth 100000 in
set_option maxHeartbeats 2000000 in
theorem mayRun_out (w : World) (size : Int) (ao : Option Addr) (len cap : Nat) (h : size < 1 ∨ 65536 < size ∨ 16 < len) :
    Calls Tryd.prog 18 #[.int .i64 size, .slice ao len cap] w fun e w' => e = .returned (.bool false) ∧ Below w.heap.size w w' := by
  have hB : Below w.heap.size w (w.alloc (.cells #[.int .i64 size] 3)) := (Below.refl _ w).alloc (Nat.le_refl _) _
  by_cases h1 : size < 1
  · have t1 : decide (size < 1) = true := by simpa using h1
    clear h
    go_enter Tryd.func18, Tryd.ntmps18
    go_wp2
    go_ret
    exact ⟨rfl, hB⟩
  · have t1 : decide (size < 1) = false := by simpa using h1
    by_cases h2 : 65536 < size
    · have t2 : decide (65536 < size) = true := by simpa using h2
      clear h
      go_enter Tryd.func18, Tryd.ntmps18
      go_wp2
      go_ret
      exact ⟨rfl, hB⟩
    · have t2 : decide (65536 < size) = false := by simpa using h2
      have h3 : 16 < len := by omega
      have t3 : decide (16 < len) = true := by simpa using h3
      have t4 : decide (16 < (len : Int)) = true := by simp; omega
      clear h
      go_enter Tryd.func18, Tryd.ntmps18
      go_wp2
      go_ret
      exact ⟨rfl, hB⟩

set_option maxRecDepth 100000 in
set_option maxHeartbeats 2000000 in
theorem mayRun_in (w : World) (n : Nat) (ao : Option Addr) (len cap : Nat) (Ps : List PrR) (h : Progs w ao len cap Ps) (h1 : 1 ≤ n) (h2 : n ≤ 65536) (h3 : len ≤ 16) :
    Calls Tryd.prog 18 #[.int .i64 (n : Int), .slice ao len cap] w fun e w' => e = .returned (.bool (Ps.all fun p => decide (p.ops.length ≤ 65536) && p.ops.all fun o => !bad n o)) ∧ Below w.heap.size w w' := by
  have hmf := made_func
  have hlen := h.out.1
  have t1 : decide ((n : Int) < 1) = false := by simp; omega
  have t2 : decide (65536 < (n : Int)) = false := by simp; omega
  have t3 : decide (16 < len) = false := by simp; omega
  have t4 : decide (16 < (len : Int)) = false := by simp; omega
  have hB0 : Below w.heap.size w (w.alloc (.cells #[.int .i64 (n : Int)] 3)) := (Below.refl _ w).alloc (Nat.le_refl _) _
  have hz0 : (w.alloc (.cells #[.int .i64 (n : Int)] 3)).heap[w.heap.size]? = some (.cells #[.int .i64 (n : Int)] 3 (0, 0)) := heap_alloc_new _ _
  go_enter Tryd.func18, Tryd.ntmps18
  go_wp2
  go_loopw [22] (fun i wr => ∃ k : Nat, k ≤ len ∧ i = .int .i64 k ∧ ((Ps.take k).all fun p => decide (p.ops.length ≤ 65536) && p.ops.all fun o => !bad n o) = true ∧ Below w.heap.size w wr ∧ wr.heap[w.heap.size]? = some (.cells #[.int .i64 (n : Int)] 3 (0, 0))) (fun i _ => len - (intOf i).toNat)
  case atStart => exact ⟨0, by omega, rfl, rfl, hB0, hz0⟩
  case round =>
    obtain ⟨k, hk, rfl, hno, hB, hz⟩ := hrel
    by_cases hkl : k < len
    · obtain ⟨p, hp⟩ := some_at hlen hkl
      obtain ⟨b, off, rfl, hbl, q0⟩ := (h.keep hB).at hp
      have hpm : p ∈ Ps := List.mem_of_getElem? hp
      obtain ⟨hs, -⟩ := (h.keep hB).ins p hpm
      have hpl := hs.1
      have hzl : w.heap.size < wr.heap.size := (Array.getElem?_eq_some_iff.1 hz).1
      have hzc : wr.cell? ⟨w.heap.size, 0, none⟩ = some (.int .i64 (n : Int)) := by rw [Go.Joins.cell_of_block hz]; rfl
      have HD := hide2 (contains_any wr w.heap.size n p.ao p.len p.cap p.ops hs hzl hzc)
      have e1 : ((Ps.take (k + 1)).all fun p => decide (p.ops.length ≤ 65536) && p.ops.all fun o => !bad n o) = (((Ps.take k).all fun p => decide (p.ops.length ≤ 65536) && p.ops.all fun o => !bad n o) && (decide (p.ops.length ≤ 65536) && p.ops.all fun o => !bad n o)) := by
        have hk2 : k < Ps.length := by omega
        have : Ps[k] = p := by rw [List.getElem?_eq_getElem hk2] at hp; exact Option.some.inj hp
        rw [← List.take_append_getElem hk2, this]; simp
      have eall : (p.ops.all fun o => !bad n o) = !p.ops.any (bad n) := by rw [List.not_any_eq_all_not]
      have hlast : ∀ b : Bool, (decide (p.ops.length ≤ 65536) && p.ops.all fun o => !bad n o) = false → Ps.all (fun p => decide (p.ops.length ≤ 65536) && p.ops.all fun o => !bad n o) = false := fun _ hf => by
        cases hx : Ps.all (fun p => decide (p.ops.length ≤ 65536) && p.ops.all fun o => !bad n o) with
        | false => rfl
        | true => rw [List.all_eq_true] at hx; have := hx p hpm; rw [hf] at this; cases this
      have E1 := hide2 e1
      have HO := hide2 hno
      have EA := hide2 eall
      have HL := hide2 hlast
      have hkl2 : (k : Int) < (len : Int) := by omega
      clear e1 hno eall hlast hs
      by_cases hbig : 65536 < p.len
      · have u1 : decide (65536 < p.len) = true := by simpa using hbig
        have u2 : decide (65536 < (p.len : Int)) = true := by simp; omega
        go_wp2
        go_ret
        refine ⟨ret_bool (HL.out true ?_).symm, hB⟩
        have : ¬ p.ops.length ≤ 65536 := by omega
        simp [this]
      · have u1 : decide (65536 < p.len) = false := by simpa using hbig
        have u2 : decide (65536 < (p.len : Int)) = false := by simp; omega
        have u3 : decide (p.ops.length ≤ 65536) = true := by simp; omega
        go_wp2_with fail
        refine HD.out.mono ?_
        rintro e w' ⟨rfl, hB'⟩
        have hB2 : Below w.heap.size w w' := hB.trans (hB'.mono (by omega))
        have hz2 := (hB'.block w.heap.size hzl).trans hz
        clear HD
        cases hb : p.ops.any (bad n) with
        | true =>
          go_wp2
          go_ret
          exact ⟨ret_bool (HL.out true (by rw [u3, EA.out, hb]; rfl)).symm, hB2⟩
        | false =>
          go_wp2
          go_roundw
          case rel => exact ⟨k + 1, by omega, by go_num, by rw [E1.out, HO.out, u3, EA.out, hb]; rfl, hB2, hz2⟩
          case measure => simp [intOf]; omega
    · obtain rfl : k = len := by omega
      have : Ps.take k = Ps := by rw [← hlen]; exact List.take_length
      rw [this] at hno
      have HO := hide2 hno
      clear hno
      go_wp2
      go_ret
      exact ⟨ret_bool HO.out.symm, hB⟩

/-- mayRun, whatever is asked. -/
theorem mayRun_any (w : World) (size : Int) (ao : Option Addr) (len cap : Nat) (Ps : List PrR) (h : Progs w ao len cap Ps) :
    Calls Tryd.prog 18 #[.int .i64 size, .slice ao len cap] w fun e w' => e = .returned (.bool (right size Ps)) ∧ Below w.heap.size w w' := by
  have hlen := h.out.1
  by_cases h1 : size < 1 ∨ 65536 < size ∨ 16 < len
  · refine (mayRun_out w size ao len cap h1).mono ?_
    rintro e w' ⟨rfl, hB⟩
    refine ⟨ret_bool ?_, hB⟩
    unfold right
    rcases h1 with h1 | h1 | h1
    · have : decide (1 ≤ size) = false := by simp; omega
      rw [this]; rfl
    · have : decide (size ≤ 65536) = false := by simp; omega
      rw [this]; simp
    · have : decide (Ps.length ≤ 16) = false := by simp; omega
      rw [this]; simp
  · obtain ⟨n, rfl⟩ : ∃ n : Nat, size = n := ⟨size.toNat, by omega⟩
    refine (mayRun_in w n ao len cap Ps h (by omega) (by omega) (by omega)).mono ?_
    rintro e w' ⟨rfl, hB⟩
    refine ⟨ret_bool ?_, hB⟩
    unfold right
    have e1 : decide (1 ≤ (n : Int)) = true := by simp; omega
    have e2 : decide ((n : Int) ≤ 65536) = true := by simp; omega
    have e3 : decide (Ps.length ≤ 16) = true := by simp; omega
    rw [e1, e2, e3]
    simp
end Go.Proofs.YtnpmldlnckbppaaDoor
