/-
  How the program puts lists.
-/
import Derived.Test.YtffgmpgmflbekaaGreatDoorXE7
set_option linter.unusedVariables false
set_option linter.unusedSimpArgs false
namespace Go.Proofs.YtffgmpgmflbekaaGreatDoor.EL
open Go.RowKit Go.Maps

theorem enter_pairs1 : ∀ args w, (callFunc 289 args).run Tryz.prog w = .ok (.enter 289 args) w := enters_of Tryz.func289 (by kernel_rfl) rfl
def pairsV : Value := .agg #[.int .i64 16, .func (.func 289) #[] #[], .func (.func 290) #[] #[]]
theorem take_flat {α : Type} (f : α → List Int) {l : List α} {k : Nat} {x : α} (h : l[k]? = some x) : (l.take (k + 1)).flatMap f = (l.take k).flatMap f ++ f x := by
  rw [List.take_add_one, h]
  simp
section
variable {w : World} {base : Nat} {v : Value} {xs : List Int}
set_option maxRecDepth 100000
set_option maxHeartbeats 4000000

theorem pairs_any : Calls Tryz.prog 236 #[] w fun e w' => e = .returned pairsV ∧ Below w.heap.size w w' := by
  have hb : Below w.heap.size w (w.alloc (.cells #[.int .i64 16, .func (.func 289) #[] #[], .func (.func 290) #[] #[]] 327)) := (Below.refl _ _).alloc (Nat.le_refl _) _
  go_enter Tryz.func236, Tryz.ntmps236
  go_wp2
  refine bodyPost_ret (v := pairsV) (by simp [results, Tryz.results236, go_sem, pairsV]) rfl ⟨rfl, hb⟩

theorem putPairs_any {ao : Option Addr} {len cap : Nat} {ls : List Pr} (h : Own w base v xs) (hbase : base ≤ w.heap.size) (hs : Seq 3 Pr.cells w ao len cap ls) (hlow : 0 < len → ∀ b off, ao = some ⟨b, off, none⟩ → b < base) (hok : ∀ x ∈ ls, okP x) (hn : len ≤ 64) (hl : xs.length ≤ 100000) :
    Calls Tryz.prog 233 #[v, .slice ao len cap, pairsV] w fun e w' => ∃ v', e = .returned v' ∧ Own w' base v' (xs ++ (enc len ++ ls.flatMap pb)) ∧ Pt w w' v v' := by
  have hx := hs.1
  have hel := enc_len len
  have eg := enter_pairs1
  have hblk : (w.alloc (.cells #[.int .i64 16, .func (.func 289) #[] #[], .func (.func 290) #[] #[]] 327)).heap[w.heap.size]? = some (.cells #[.int .i64 16, .func (.func 289) #[] #[], .func (.func 290) #[] #[]] 327 (0, 0)) := heap_alloc_new w _
  have hz0' : w.heap.size < (w.alloc (.cells #[.int .i64 16, .func (.func 289) #[] #[], .func (.func 290) #[] #[]] 327)).heap.size := by simp
  have ho0' : Own (w.alloc (.cells #[.int .i64 16, .func (.func 289) #[] #[], .func (.func 290) #[] #[]] 327)) base v xs := World.ownsRow.alloc h _
  have q0' : Pt w (w.alloc (.cells #[.int .i64 16, .func (.func 289) #[] #[], .func (.func 290) #[] #[]] 327)) v v := Pt.alloc w v _
  have hne0' : some w.heap.size ≠ v.ownBlock := h.ne
  have hvb : ∀ k, v.ownBlock = some k → base ≤ k := fun k hk => (World.ownsRow.lt h k hk).1
  have hle64 : (len : Int) ≤ 64 := by omega
  have HS := ehide3 hs
  have HOK := ehide3 hok
  have HL := ehide3 hlow
  clear h hs hok hlow
  unfold pairsV
  go_enter Tryz.func233, Tryz.ntmps233
  go_wp2_with fail
  refine (putNumber_any (len : Int) ho0' (by omega) (by omega) (by omega) (by omega)).mono ?_
  rintro e w1 ⟨v1, rfl, ho1, p1⟩
  have hk1 := p1.block (k := w.heap.size) hz0' hne0'
  have hb1 := hk1.1.trans hblk
  have hne1 := hk1.2
  have q1 := q0'.trans p1
  clear hk1 hblk hz0' ho0' q0' hne0' p1
  go_wp2_with fail
  go_loopw [0, 16] (fun a i wr => ∃ (k : Nat) (va : Value), k ≤ len ∧ i = .int .i64 k ∧ a = va ∧ Own wr base va (xs ++ enc len ++ (ls.take k).flatMap pb) ∧ Pt w wr v va ∧ wr.heap[w.heap.size]? = some (.cells #[.int .i64 16, .func (.func 289) #[] #[], .func (.func 290) #[] #[]] 327 (0, 0)) ∧ some w.heap.size ≠ va.ownBlock) (fun _ i _ => len - (intOf i).toNat)
  case atStart => exact ⟨0, _, by omega, rfl, rfl, by simpa using ho1, q1, hb1, hne1⟩
  case round =>
    obtain ⟨k, va, hk, rfl, hva, ho, hq, hbk, hne⟩ := hrel
    replace hva := hva.symm
    subst hva
    have hB : Below base w wr := hq.blow hvb hbase
    by_cases hkl : k < len
    · obtain ⟨x, hxk⟩ : ∃ x, ls[k]? = some x := ⟨ls[k], List.getElem?_eq_getElem (by omega)⟩
      have hokx := HOK.out x (List.mem_of_getElem? hxk)
      obtain ⟨b, off, rfl, hbl, hcell⟩ := HS.out.three (by omega)
      have hlb := HL.out (by omega) b off rfl
      obtain ⟨r0, r1, r2⟩ := hcell k x _ _ _ hxk rfl
      have s0 := (hB.cell (p := ⟨b, off + k * 3, none⟩) hlb).trans r0
      have s1 := (hB.cell (p := ⟨b, off + k * 3 + 1, none⟩) hlb).trans r1
      have s2 := (hB.cell (p := ⟨b, off + k * 3 + 2, none⟩) hlb).trans r2
      have hki : (k : Int) < (len : Int) := by omega
      have hlen2 : (xs ++ enc len ++ (ls.take k).flatMap pb).length ≤ 900000 := by
        have := flat_len pb (ls.take k) 101 (fun y hy => Nat.le_trans (pb_len y) (by omega))
        rw [List.length_append, List.length_append]
        rw [List.length_take] at this
        omega
      have hflat := take_flat pb hxk
      obtain ⟨f0, f1, f2⟩ := x
      simp only [] at s0 s1 s2
      obtain ⟨wx, hwx⟩ : ∃ y, y = wr.alloc (.cells #[.int .i64 f0, .int .i64 f1, .int .i64 f2] 46) := ⟨_, rfl⟩
      have ho' : Own (wr.alloc (.cells #[.int .i64 f0, .int .i64 f1, .int .i64 f2] 46)) base va (xs ++ enc len ++ (ls.take k).flatMap pb) := World.ownsRow.alloc ho _
      have hq' : Pt w (wr.alloc (.cells #[.int .i64 f0, .int .i64 f1, .int .i64 f2] 46)) v va := hq.trans (Pt.alloc wr va _)
      have hlt : w.heap.size < wr.heap.size := (Array.getElem?_eq_some_iff.1 hbk).1
      have hbk' := (blk_alloc' wr (.cells #[.int .i64 f0, .int .i64 f1, .int .i64 f2] 46) w.heap.size hlt).trans hbk
      have g1 : (wr.alloc (.cells #[.int .i64 f0, .int .i64 f1, .int .i64 f2] 46)).cell? ⟨w.heap.size, 1, none⟩ = some (.func (.func 289) #[] #[]) := by rw [Go.Joins.cell_of_block hbk']; rfl
      have HC := ehide3 (putPair_any ⟨f0, f1, f2⟩ ho' (by have := hq'.g.size; omega) hokx hlen2)
      clear hcell r0 r1 r2 hwx wx ho hq hbk ho1 q1 hb1 hne1 hvb ho'
      go_wp2_with fail
      refine HC.out.mono ?_
      rintro e w2 ⟨v2, rfl, ho2, p2⟩
      have hk2 := p2.block (k := w.heap.size) (by simp; omega) hne
      have q2 := hq'.trans p2
      have hb2 := hk2.1.trans hbk'
      have hne2 := hk2.2
      have HO2 := ehide3 (show Own w2 base v2 (xs ++ enc len ++ (ls.take (k + 1)).flatMap pb) from by rw [hflat, ← List.append_assoc]; exact ho2)
      clear HC hk2 hbk' hq' ho2 p2 g1 s0 s1 s2
      go_wp2
      go_roundw
      case rel => exact ⟨k + 1, _, by omega, by go_num, rfl, HO2.out, q2, hb2, hne2⟩
      case measure => simp [intOf]; omega
    · have hki : ¬ (k : Int) < (len : Int) := by omega
      rw [List.take_of_length_le (by omega)] at ho
      rw [List.append_assoc] at ho
      go_wp2
      go_ret
      exact ⟨_, rfl, ho, hq⟩
end
end Go.Proofs.YtffgmpgmflbekaaGreatDoor.EL
