/-
  How the program puts lists.
-/
import Derived.Test.YteihabdldiopeaaE7
set_option linter.unusedVariables false
set_option linter.unusedSimpArgs false
namespace Go.Proofs.Yteihabdldiopeaa
open Go.RowKit Go.Maps

theorem enter_writes1 : ∀ args w, (callFunc 88 args).run Try.prog w = .ok (.enter 88 args) w := enters_of Try.func88 (by kernel_rfl) rfl
theorem enter_pairs1 : ∀ args w, (callFunc 97 args).run Try.prog w = .ok (.enter 97 args) w := enters_of Try.func97 (by kernel_rfl) rfl
/-- What 'writes' and 'pairs' answer. -/
def writesV : Value := .agg #[.int .i64 64, .func (.func 88) #[] #[], .func (.func 89) #[] #[]]
def pairsV : Value := .agg #[.int .i64 16, .func (.func 97) #[] #[], .func (.func 98) #[] #[]]
theorem take_flat {α : Type} (f : α → List Int) {l : List α} {k : Nat} {x : α} (h : l[k]? = some x) : (l.take (k + 1)).flatMap f = (l.take k).flatMap f ++ f x := by
  rw [List.take_add_one, h]
  simp
theorem putWrite_any {w : World} {base : Nat} {v : Value} {xs : List Int} (x : Wr) (h : Own w base v xs) (hbase : base ≤ w.heap.size) (hr : okW x = true) (hl : xs.length ≤ 900000) :
    Calls Try.prog 88 #[v, x.v] w fun e w' => ∃ v', e = .returned v' ∧ Own w' base v' (xs ++ wb x) ∧ Pt w w' v v' := by
  cases hg : x.gone with
  | true => exact putWriteG_any x h hbase hr hg hl
  | false => exact putWriteV_any x h hbase hr hg hl

section
variable {w : World} {base : Nat} {v : Value} {xs : List Int}
set_option maxRecDepth 100000
set_option maxHeartbeats 4000000

theorem writes_any : Calls Try.prog 59 #[] w fun e w' => e = .returned writesV ∧ Below w.heap.size w w' := by
  have hb : Below w.heap.size w (w.alloc (.cells #[.int .i64 64, .func (.func 88) #[] #[], .func (.func 89) #[] #[]] 103)) := (Below.refl _ _).alloc (Nat.le_refl _) _
  go_enter Try.func59, Try.ntmps59
  go_wp2
  refine bodyPost_ret (v := writesV) (by simp [results, Try.results59, go_sem, writesV]) rfl ⟨rfl, hb⟩
theorem pairs_any : Calls Try.prog 79 #[] w fun e w' => e = .returned pairsV ∧ Below w.heap.size w w' := by
  have hb : Below w.heap.size w (w.alloc (.cells #[.int .i64 16, .func (.func 97) #[] #[], .func (.func 98) #[] #[]] 115)) := (Below.refl _ _).alloc (Nat.le_refl _) _
  go_enter Try.func79, Try.ntmps79
  go_wp2
  refine bodyPost_ret (v := pairsV) (by simp [results, Try.results79, go_sem, pairsV]) rfl ⟨rfl, hb⟩

theorem putWrites_any {ao : Option Addr} {len cap : Nat} {ls : List Wr} (h : Own w base v xs) (hbase : base ≤ w.heap.size) (hs : Seq 3 Wr.cells w ao len cap ls) (hlow : 0 < len → ∀ b off, ao = some ⟨b, off, none⟩ → b < base) (hok : ∀ x ∈ ls, okW x = true) (hn : len ≤ 64) (hl : xs.length ≤ 100000) :
    Calls Try.prog 57 #[v, .slice ao len cap, writesV] w fun e w' => ∃ v', e = .returned v' ∧ Own w' base v' (xs ++ (enc len ++ ls.flatMap wb)) ∧ Pt w w' v v' := by
  have hx := hs.1
  have hel := enc_len len
  have eg := enter_writes1
  have hblk : (w.alloc (.cells #[.int .i64 64, .func (.func 88) #[] #[], .func (.func 89) #[] #[]] 103)).heap[w.heap.size]? = some (.cells #[.int .i64 64, .func (.func 88) #[] #[], .func (.func 89) #[] #[]] 103 (0, 0)) := heap_alloc_new w _
  have hz0' : w.heap.size < (w.alloc (.cells #[.int .i64 64, .func (.func 88) #[] #[], .func (.func 89) #[] #[]] 103)).heap.size := by simp
  have ho0' : Own (w.alloc (.cells #[.int .i64 64, .func (.func 88) #[] #[], .func (.func 89) #[] #[]] 103)) base v xs := World.ownsRow.alloc h _
  have q0' : Pt w (w.alloc (.cells #[.int .i64 64, .func (.func 88) #[] #[], .func (.func 89) #[] #[]] 103)) v v := Pt.alloc w v _
  have hne0' : some w.heap.size ≠ v.ownBlock := h.ne
  have hvb : ∀ k, v.ownBlock = some k → base ≤ k := fun k hk => (World.ownsRow.lt h k hk).1
  have hle64 : (len : Int) ≤ 64 := by omega
  have HS := hide3 hs
  have HOK := hide3 hok
  have HL := hide3 hlow
  clear h hs hok hlow
  unfold writesV
  go_enter Try.func57, Try.ntmps57
  go_wp2_with fail
  refine (putNumber_any (len : Int) ho0' (by omega) (by omega) (by omega) (by omega)).mono ?_
  rintro e w1 ⟨v1, rfl, ho1, p1⟩
  have hk1 := p1.block (k := w.heap.size) hz0' hne0'
  have hb1 := hk1.1.trans hblk
  have hne1 := hk1.2
  have q1 := q0'.trans p1
  clear hk1 hblk hz0' ho0' q0' hne0' p1
  go_wp2_with fail
  go_loopw [0, 16] (fun a i wr => ∃ (k : Nat) (va : Value), k ≤ len ∧ i = .int .i64 k ∧ a = va ∧ Own wr base va (xs ++ enc len ++ (ls.take k).flatMap wb) ∧ Pt w wr v va ∧ wr.heap[w.heap.size]? = some (.cells #[.int .i64 64, .func (.func 88) #[] #[], .func (.func 89) #[] #[]] 103 (0, 0)) ∧ some w.heap.size ≠ va.ownBlock) (fun _ i _ => len - (intOf i).toNat)
  case atStart => exact ⟨0, _, by omega, rfl, rfl, by simpa using ho1, q1, hb1, hne1⟩
  case round =>
    obtain ⟨k, va, hk, rfl, hva, ho, hq, hbk, hne⟩ := hrel
    replace hva := hva.symm
    subst hva
    have hB : Below base w wr := hq.blow hvb hbase
    by_cases hkl : k < len
    · obtain ⟨x, hxk⟩ : ∃ x, ls[k]? = some x := ⟨ls[k], List.getElem?_eq_getElem (by omega)⟩
      have hokx := HOK.out x (List.mem_of_getElem? hxk)
      obtain ⟨b, off, rfl, hbl, hcell⟩ := HS.out.three (by omega)
      have hlb := HL.out (by omega) b off rfl
      obtain ⟨r0, r1, r2⟩ := hcell k x _ _ _ hxk rfl
      have s0 := (hB.cell (p := ⟨b, off + k * 3, none⟩) hlb).trans r0
      have s1 := (hB.cell (p := ⟨b, off + k * 3 + 1, none⟩) hlb).trans r1
      have s2 := (hB.cell (p := ⟨b, off + k * 3 + 2, none⟩) hlb).trans r2
      have hki : (k : Int) < (len : Int) := by omega
      have hlen2 : (xs ++ enc len ++ (ls.take k).flatMap wb).length ≤ 900000 := by
        have := flat_len wb (ls.take k) 101 (fun y hy => wb_len y (HOK.out y (List.mem_of_mem_take hy)))
        rw [List.length_append, List.length_append]
        rw [List.length_take] at this
        omega
      have hflat := take_flat wb hxk
      obtain ⟨f0, f1, f2⟩ := x
      simp only [] at s0 s1 s2
      obtain ⟨wx, hwx⟩ : ∃ y, y = wr.alloc (.cells #[.string f0, .string f1, .bool f2] 28) := ⟨_, rfl⟩
      have ho' : Own (wr.alloc (.cells #[.string f0, .string f1, .bool f2] 28)) base va (xs ++ enc len ++ (ls.take k).flatMap wb) := World.ownsRow.alloc ho _
      have hq' : Pt w (wr.alloc (.cells #[.string f0, .string f1, .bool f2] 28)) v va := hq.trans (Pt.alloc wr va _)
      have hlt : w.heap.size < wr.heap.size := (Array.getElem?_eq_some_iff.1 hbk).1
      have hbk' := (blk_alloc' wr (.cells #[.string f0, .string f1, .bool f2] 28) w.heap.size hlt).trans hbk
      have g1 : (wr.alloc (.cells #[.string f0, .string f1, .bool f2] 28)).cell? ⟨w.heap.size, 1, none⟩ = some (.func (.func 88) #[] #[]) := by rw [Go.Joins.cell_of_block hbk']; rfl
      have HC := hide3 (putWrite_any ⟨f0, f1, f2⟩ ho' (by have := hq'.g.size; omega) hokx hlen2)
      clear hcell r0 r1 r2 hwx wx ho hq hbk ho1 q1 hb1 hne1 hvb ho'
      go_wp2_with fail
      refine HC.out.mono ?_
      rintro e w2 ⟨v2, rfl, ho2, p2⟩
      have hk2 := p2.block (k := w.heap.size) (by simp; omega) hne
      have q2 := hq'.trans p2
      have hb2 := hk2.1.trans hbk'
      have hne2 := hk2.2
      have HO2 := hide3 (show Own w2 base v2 (xs ++ enc len ++ (ls.take (k + 1)).flatMap wb) from by rw [hflat, ← List.append_assoc]; exact ho2)
      clear HC hk2 hbk' hq' ho2 p2 g1 s0 s1 s2
      go_wp2
      go_roundw
      case rel => exact ⟨k + 1, _, by omega, by go_num, rfl, HO2.out, q2, hb2, hne2⟩
      case measure => simp [intOf]; omega
    · have hki : ¬ (k : Int) < (len : Int) := by omega
      rw [List.take_of_length_le (by omega)] at ho
      rw [List.append_assoc] at ho
      go_wp2
      go_ret
      exact ⟨_, rfl, ho, hq⟩

theorem putPairs_any {ao : Option Addr} {len cap : Nat} {ls : List Pr} (h : Own w base v xs) (hbase : base ≤ w.heap.size) (hs : Seq 3 Pr.cells w ao len cap ls) (hlow : 0 < len → ∀ b off, ao = some ⟨b, off, none⟩ → b < base) (hok : ∀ x ∈ ls, okP x) (hn : len ≤ 64) (hl : xs.length ≤ 100000) :
    Calls Try.prog 77 #[v, .slice ao len cap, pairsV] w fun e w' => ∃ v', e = .returned v' ∧ Own w' base v' (xs ++ (enc len ++ ls.flatMap pb)) ∧ Pt w w' v v' := by
  have hx := hs.1
  have hel := enc_len len
  have eg := enter_pairs1
  have hblk : (w.alloc (.cells #[.int .i64 16, .func (.func 97) #[] #[], .func (.func 98) #[] #[]] 115)).heap[w.heap.size]? = some (.cells #[.int .i64 16, .func (.func 97) #[] #[], .func (.func 98) #[] #[]] 115 (0, 0)) := heap_alloc_new w _
  have hz0' : w.heap.size < (w.alloc (.cells #[.int .i64 16, .func (.func 97) #[] #[], .func (.func 98) #[] #[]] 115)).heap.size := by simp
  have ho0' : Own (w.alloc (.cells #[.int .i64 16, .func (.func 97) #[] #[], .func (.func 98) #[] #[]] 115)) base v xs := World.ownsRow.alloc h _
  have q0' : Pt w (w.alloc (.cells #[.int .i64 16, .func (.func 97) #[] #[], .func (.func 98) #[] #[]] 115)) v v := Pt.alloc w v _
  have hne0' : some w.heap.size ≠ v.ownBlock := h.ne
  have hvb : ∀ k, v.ownBlock = some k → base ≤ k := fun k hk => (World.ownsRow.lt h k hk).1
  have hle64 : (len : Int) ≤ 64 := by omega
  have HS := hide3 hs
  have HOK := hide3 hok
  have HL := hide3 hlow
  clear h hs hok hlow
  unfold pairsV
  go_enter Try.func77, Try.ntmps77
  go_wp2_with fail
  refine (putNumber_any (len : Int) ho0' (by omega) (by omega) (by omega) (by omega)).mono ?_
  rintro e w1 ⟨v1, rfl, ho1, p1⟩
  have hk1 := p1.block (k := w.heap.size) hz0' hne0'
  have hb1 := hk1.1.trans hblk
  have hne1 := hk1.2
  have q1 := q0'.trans p1
  clear hk1 hblk hz0' ho0' q0' hne0' p1
  go_wp2_with fail
  go_loopw [0, 16] (fun a i wr => ∃ (k : Nat) (va : Value), k ≤ len ∧ i = .int .i64 k ∧ a = va ∧ Own wr base va (xs ++ enc len ++ (ls.take k).flatMap pb) ∧ Pt w wr v va ∧ wr.heap[w.heap.size]? = some (.cells #[.int .i64 16, .func (.func 97) #[] #[], .func (.func 98) #[] #[]] 115 (0, 0)) ∧ some w.heap.size ≠ va.ownBlock) (fun _ i _ => len - (intOf i).toNat)
  case atStart => exact ⟨0, _, by omega, rfl, rfl, by simpa using ho1, q1, hb1, hne1⟩
  case round =>
    obtain ⟨k, va, hk, rfl, hva, ho, hq, hbk, hne⟩ := hrel
    replace hva := hva.symm
    subst hva
    have hB : Below base w wr := hq.blow hvb hbase
    by_cases hkl : k < len
    · obtain ⟨x, hxk⟩ : ∃ x, ls[k]? = some x := ⟨ls[k], List.getElem?_eq_getElem (by omega)⟩
      have hokx := HOK.out x (List.mem_of_getElem? hxk)
      obtain ⟨b, off, rfl, hbl, hcell⟩ := HS.out.three (by omega)
      have hlb := HL.out (by omega) b off rfl
      obtain ⟨r0, r1, r2⟩ := hcell k x _ _ _ hxk rfl
      have s0 := (hB.cell (p := ⟨b, off + k * 3, none⟩) hlb).trans r0
      have s1 := (hB.cell (p := ⟨b, off + k * 3 + 1, none⟩) hlb).trans r1
      have s2 := (hB.cell (p := ⟨b, off + k * 3 + 2, none⟩) hlb).trans r2
      have hki : (k : Int) < (len : Int) := by omega
      have hlen2 : (xs ++ enc len ++ (ls.take k).flatMap pb).length ≤ 900000 := by
        have := flat_len pb (ls.take k) 101 (fun y hy => Nat.le_trans (pb_len y) (by omega))
        rw [List.length_append, List.length_append]
        rw [List.length_take] at this
        omega
      have hflat := take_flat pb hxk
      obtain ⟨f0, f1, f2⟩ := x
      simp only [] at s0 s1 s2
      obtain ⟨wx, hwx⟩ : ∃ y, y = wr.alloc (.cells #[.int .i64 f0, .int .i64 f1, .int .i64 f2] 53) := ⟨_, rfl⟩
      have ho' : Own (wr.alloc (.cells #[.int .i64 f0, .int .i64 f1, .int .i64 f2] 53)) base va (xs ++ enc len ++ (ls.take k).flatMap pb) := World.ownsRow.alloc ho _
      have hq' : Pt w (wr.alloc (.cells #[.int .i64 f0, .int .i64 f1, .int .i64 f2] 53)) v va := hq.trans (Pt.alloc wr va _)
      have hlt : w.heap.size < wr.heap.size := (Array.getElem?_eq_some_iff.1 hbk).1
      have hbk' := (blk_alloc' wr (.cells #[.int .i64 f0, .int .i64 f1, .int .i64 f2] 53) w.heap.size hlt).trans hbk
      have g1 : (wr.alloc (.cells #[.int .i64 f0, .int .i64 f1, .int .i64 f2] 53)).cell? ⟨w.heap.size, 1, none⟩ = some (.func (.func 97) #[] #[]) := by rw [Go.Joins.cell_of_block hbk']; rfl
      have HC := hide3 (putPair_any ⟨f0, f1, f2⟩ ho' (by have := hq'.g.size; omega) hokx hlen2)
      clear hcell r0 r1 r2 hwx wx ho hq hbk ho1 q1 hb1 hne1 hvb ho'
      go_wp2_with fail
      refine HC.out.mono ?_
      rintro e w2 ⟨v2, rfl, ho2, p2⟩
      have hk2 := p2.block (k := w.heap.size) (by simp; omega) hne
      have q2 := hq'.trans p2
      have hb2 := hk2.1.trans hbk'
      have hne2 := hk2.2
      have HO2 := hide3 (show Own w2 base v2 (xs ++ enc len ++ (ls.take (k + 1)).flatMap pb) from by rw [hflat, ← List.append_assoc]; exact ho2)
      clear HC hk2 hbk' hq' ho2 p2 g1 s0 s1 s2
      go_wp2
      go_roundw
      case rel => exact ⟨k + 1, _, by omega, by go_num, rfl, HO2.out, q2, hb2, hne2⟩
      case measure => simp [intOf]; omega
    · have hki : ¬ (k : Int) < (len : Int) := by omega
      rw [List.take_of_length_le (by omega)] at ho
      rw [List.append_assoc] at ho
      go_wp2
      go_ret
      exact ⟨_, rfl, ho, hq⟩
end
end Go.Proofs.Yteihabdldiopeaa
