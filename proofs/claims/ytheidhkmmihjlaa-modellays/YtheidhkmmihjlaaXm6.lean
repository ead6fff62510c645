/-
  Xm6: CScan's closure: a key that is there is told.
-/
import Derived.Test.YtheidhkmmihjlaaXm5
set_option linter.unusedVariables false
set_option linter.unusedSimpArgs false
namespace Go.Proofs.Ytheidhkmmihjlaa
open Go.RowKit Go.Shelf Go.Maps
open ML (Ro RS Rr rc rc_len rc_one rc_append infoRo Srt nless fstOf Fst strLit strLit_inj setL setL_same setL_other delL delL_same delL_other od nl_irr nl_tr nl_tot Mg Rdg RVs strKeyed str_key turned_below zeroRo)
attribute [local go_sem] Oper.semAt_some

theorem nl_flip (a b : ByteArray) : (Op.bytesLess a.toList b.toList || (a.toList == b.toList)) = !nless b a := slt_flip a b
/-- How many rows a list in memory may have here. -/
def big : Nat := 3518437208883
theorem xapp {w : World} {B : Nat} {v : Value} {l : List Ro} (h : Rr w B v l) (hB : B ≤ w.heap.size) (r : Ro) (g : Nat) (hg : w.heap[g]? = some (.cells #[.string r.k, .string r.v, .int .i64 r.t] 45 (0, 0))) (hl : l.length + 1 ≤ big) :
    ∃ v' w', (Builtin.append_ #[22, 22] 22 #[v, .slice (some ⟨g, 0, none⟩) 1 1]).run Try.prog w = .ok v' w' ∧ Rr w' B v' (l ++ [r]) ∧ (∀ a n, n ≤ B → Below n a w → Below n a w') ∧ w.heap.size ≤ w'.heap.size ∧ (∀ k, k < w.heap.size → v.ownBlock ≠ some k → w'.heap[k]? = w.heap[k]?) := by
  unfold big at hl
  obtain ⟨i0, hi0, z0, z1, z2⟩ := info_parts infoRo
  have hc : ∀ j u, (rc [r])[j]? = some u → w.cell? ((⟨g, 0, none⟩ : Addr).add j) = some u := by
    intro j u hj
    rw [addr_add, Nat.zero_add, Go.Joins.cell_of_block hg]
    simpa [rc] using hj
  obtain ⟨v', w', hr, ho, hgr, _, _⟩ := run_append_own_at (P := Try.prog) w B 22 22 45 i0 _ 3 40 Try.underlying22 hi0 z0 z1 z2 rfl (by decide) v _ _ h ⟨g, 0, none⟩ 1 1 (rc [r]) (rc_len _) hc (rc_one _) (by unfold maxLen; omega) (by omega) hB
  refine ⟨v', w', hr, ?_, fun a n hn hb => hb.grown hgr (by omega) (fun k e => Nat.le_trans hn (World.ownsRow.lt h k e).1), hgr.size, fun k hk hne => hgr.block k hk (fun e => hne e.symm)⟩
  unfold Rr
  rw [List.length_append, rc_append]
  exact ho
/-- Rows that a closure puts together. -/
def Acc (w : World) (B rb : Nat) (v : Value) (l : List Ro) : Prop := w.heap[rb]? = some (.cells #[v] 22 (0, 0)) ∧ Rr w B v l ∧ (l = [] → v = .slice none 0 0)
def seeL (S : Ms) (lo hi key : ByteArray) : List Ro := if ins lo hi ⟨key, .empty, 0⟩ = true then match look S key with
  | some v => [⟨key, v, 0⟩]
  | none => [] else []
/-- What a round leaves. -/
def Rnd (w w' : World) (rb : Nat) (v : Value) : Prop := Below 0 w w' ∧ ∀ j, j < w.heap.size → j ≠ rb → v.ownBlock ≠ some j → w'.heap[j]? = w.heap[j]?
theorem Rnd.below {w w' : World} {rb : Nat} {v : Value} (h : Below w.heap.size w w') : Rnd w w' rb v := ⟨h.mono (Nat.zero_le _), fun j hj _ _ => h.block j hj⟩
theorem Rnd.pre {w w1 w2 : World} {rb : Nat} {v : Value} (h : Below w.heap.size w w1) (k : Rnd w1 w2 rb v) : Rnd w w2 rb v := ⟨(h.mono (Nat.zero_le _)).trans k.1, fun j hj a b => (k.2 j (Nat.lt_of_lt_of_le hj h.size) a b).trans (h.block j hj)⟩
theorem Acc.keep {w w' : World} {B rb : Nat} {v : Value} {l : List Ro} (h : Acc w B rb v l) (hb : Below w.heap.size w w') : Acc w' B rb v l := ⟨(hb.block _ (Array.getElem?_eq_some_iff.1 h.1).1).trans h.1, h.2.1.keep hb, h.2.2⟩
theorem own_cells {w : World} {B j : Nat} {v : Value} {l : List Ro} {o : Obj} (h : Rr w B v l) (hj : w.heap[j]? = some o) (hc : o.isCells = false) : v.ownBlock ≠ some j := by
  rcases h.2 with ⟨rfl, _⟩ | ⟨g, cap, cur, rfl, hg, hh, _⟩
  · nofun
  · intro e
    have e' : g = j := by simpa [Value.ownBlock] using e
    subst e'
    rw [hh] at hj
    cases hj
    cases hc
theorem own_ge {w : World} {B : Nat} {v : Value} {l : List Ro} (h : Rr w B v l) {j : Nat} (hj : v.ownBlock = some j) : B ≤ j := (World.ownsRow.lt h j hj).1
section
set_option maxHeartbeats 1000000
set_option maxRecDepth 100000
variable {w : World} {X b cb mb rb B : Nat} {c : Option Nat} {S : Ms} {C : Cl} {v : Value} {acc : List Ro}
theorem see_any (h : Pm w X b c S) (ho : S.ws ≠ none) (hcb : w.heap[cb]? = some C.obj) (hmb : w.heap[mb]? = some (.cells #[ptr X] 25 (0, 0))) (hA : Acc w B rb v acc) (hB : B ≤ w.heap.size) (hrB : rb < B) (hl : acc.length + 1 ≤ big) (key : ByteArray) (hk : key.size ≤ maxLen) :
    Calls Try.prog 69 #[.string key, ptr cb, ptr mb, ptr rb] w fun e w' => e = .returned (.tuple #[]) ∧ Rnd w w' rb v ∧ ∃ v', Acc w' B rb v' (acc ++ seeL S C.key C.high key) := by
  have c0 : w.cell? ⟨cb, 2, none⟩ = some (.string C.key) := by rw [Go.Joins.cell_of_block hcb]; rfl
  have c1 : w.cell? ⟨cb, 3, none⟩ = some (.string C.high) := by rw [Go.Joins.cell_of_block hcb]; rfl
  have c2 : w.cell? ⟨mb, 0, none⟩ = some (ptr X) := by rw [Go.Joins.cell_of_block hmb]; rfl
  have HK := xhide (look_any h ho key hk)
  have HA := xhide hA
  have H := xhide h
  cases t0 : nless key C.key with
  | true =>
    have hs : seeL S C.key C.high key = [] := by unfold seeL ins; simp [t0]
    unfold nless at t0
    rw [hs, List.append_nil]
    clear h hA
    go_enter Try.func69, Try.ntmps69
    go_wp2
    refine bodyPost_ret (results_none rfl _ _ _) rfl ⟨rfl, Rnd.below (Below.refl _ _), v, HA.out⟩
  | false =>
    by_cases hz : C.high.size = 0
    · have te : C.high.toList.isEmpty = true := by rw [isEmpty_eq]; exact decide_eq_true hz
      have hin : ins C.key C.high ⟨key, .empty, 0⟩ = true := by unfold ins; simp [t0, hz]
      unfold nless at t0
      clear h hA
      go_enter Try.func69, Try.ntmps69
      go_wp2_with fail
      refine HK.out.mono ?_
      rintro e w1 ⟨rfl, hb⟩
      have hA1 := HA.out.keep hb
      have hB1 : B ≤ w1.heap.size := Nat.le_trans hB hb.size
      cases hlk : look S key with
      | none =>
        have hs : seeL S C.key C.high key = [] := by unfold seeL; rw [if_pos hin, hlk]
        simp only [hlk, Option.getD_none, Option.isSome_none] at *
        have FIN := xhide (show Rnd w w1 rb v ∧ ∃ v', Acc w1 B rb v' (acc ++ seeL S C.key C.high key) from ⟨Rnd.below hb, v, by rw [hs, List.append_nil]; exact hA1⟩)
        clear hA1 hb HK HA H hs
        go_wp2
        go_end0
        exact ⟨rfl, FIN.out⟩
      | some v0 =>
        have hs : seeL S C.key C.high key = [⟨key, v0, 0⟩] := by unfold seeL; rw [if_pos hin, hlk]
        simp only [hlk, Option.getD_some, Option.isSome_some] at *
        have hblk := heap_alloc_new w1 (.cells #[.string key, .string v0, .int .i64 0] 45)
        have hb2 := ML.below1 w1 (.cells #[.string key, .string v0, .int .i64 0] 45)
        have hA2 := hA1.keep hb2
        obtain ⟨v', w', hrun, hR, hlow, hsz, hoth⟩ := xapp hA2.2.1 (by simp; omega) ⟨key, v0, 0⟩ w1.heap.size hblk hl
        obtain ⟨aq, cq, ev, _⟩ := hR.seq
        subst ev
        have cr := hA1.1
        have crc : w1.cell? ⟨rb, 0, none⟩ = some v := by rw [Go.Joins.cell_of_block cr]; rfl
        have hrl : rb < w1.heap.size := (Array.getElem?_eq_some_iff.1 cr).1
        have hrl2 : rb < (w1.alloc (.cells #[.string key, .string v0, .int .i64 0] 45)).heap.size := by simp; omega
        have hro : v.ownBlock ≠ some rb := fun e => by have := own_ge hA1.2.1 e; omega
        have crw : w'.heap[rb]? = some (.cells #[v] 22 (0, 0)) := (hoth rb hrl2 hro).trans hA2.1
        have crw0 : w'.cell? ⟨rb, 0, none⟩ = some v := by rw [Go.Joins.cell_of_block crw]; rfl
        have crf : w'.frozen? ⟨rb, 0, none⟩ = false := Go.Joins.unfrozen_of_block crw 0
        have hrl3 : rb < w'.heap.size := (Array.getElem?_eq_some_iff.1 crw).1
        have FIN := xhide (show Rnd w (w'.setCell ⟨rb, 0, none⟩ (.slice aq (acc ++ [(⟨key, v0, 0⟩ : Ro)]).length cq)) rb v ∧ ∃ v'', Acc (w'.setCell ⟨rb, 0, none⟩ (.slice aq (acc ++ [(⟨key, v0, 0⟩ : Ro)]).length cq)) B rb v'' (acc ++ seeL S C.key C.high key) from by
          rw [hs]
          refine ⟨⟨(((hb.trans (hb2.mono hb.size)).mono (Nat.zero_le _)).trans ((hlow _ 0 (Nat.zero_le _) (Below.refl 0 _)).trans ((Below.refl 0 w').setCell (p := ⟨rb, 0, none⟩) (Nat.zero_le _) _))), fun j hj n1 n2 => ?_⟩, _, (Go.Joins.block_setCell crw _).trans rfl, ?_, fun q => by simp at q⟩
          · have hj1 : j < w1.heap.size := Nat.lt_of_lt_of_le hj hb.size
            exact (set_else n1).trans ((hoth j (by simp; omega) n2).trans ((hb2.block j hj1).trans (hb.block j hj)))
          · have hne : (Value.slice aq (acc ++ [(⟨key, v0, 0⟩ : Ro)]).length cq).ownBlock ≠ some rb := fun e => by have := own_ge hR e; omega
            exact ownsRow_setCell_other hR hne _)
        clear hA1 hA2 hb hb2 hR hlow hsz hoth cr crw HK HA H hs hblk hro
        have HRUN := xhide hrun
        clear hrun
        go_wp2_with (first
          | (at_builtin; refine Lib.wpList_append_run _ rfl _ _ _ _ rfl _ _ rfl rfl _ w' HRUN.out ?_)
          | go_in)
        go_wp2
        go_end0
        exact ⟨rfl, by have := FIN.out; rwa [List.length_append] at this⟩
    · have te : C.high.toList.isEmpty = false := by rw [isEmpty_eq]; exact decide_eq_false hz
      cases tl : nless key C.high with
      | false =>
        have hs : seeL S C.key C.high key = [] := by unfold seeL ins; simp [tl, hz]
        unfold nless at t0 tl
        rw [hs, List.append_nil]
        clear h hA
        go_enter Try.func69, Try.ntmps69
        go_wp2
        refine bodyPost_ret (results_none rfl _ _ _) rfl ⟨rfl, Rnd.below (Below.refl _ _), v, HA.out⟩
      | true =>
        have hin : ins C.key C.high ⟨key, .empty, 0⟩ = true := by unfold ins; simp [t0, tl]
        unfold nless at t0 tl
        clear h hA
        go_enter Try.func69, Try.ntmps69
        go_wp2_with fail
        refine HK.out.mono ?_
        rintro e w1 ⟨rfl, hb⟩
        have hA1 := HA.out.keep hb
        have hB1 : B ≤ w1.heap.size := Nat.le_trans hB hb.size
        cases hlk : look S key with
        | none =>
          have hs : seeL S C.key C.high key = [] := by unfold seeL; rw [if_pos hin, hlk]
          simp only [hlk, Option.getD_none, Option.isSome_none] at *
          have FIN := xhide (show Rnd w w1 rb v ∧ ∃ v', Acc w1 B rb v' (acc ++ seeL S C.key C.high key) from ⟨Rnd.below hb, v, by rw [hs, List.append_nil]; exact hA1⟩)
          clear hA1 hb HK HA H hs
          go_wp2
          go_end0
          exact ⟨rfl, FIN.out⟩
        | some v0 =>
          have hs : seeL S C.key C.high key = [⟨key, v0, 0⟩] := by unfold seeL; rw [if_pos hin, hlk]
          simp only [hlk, Option.getD_some, Option.isSome_some] at *
          have hblk := heap_alloc_new w1 (.cells #[.string key, .string v0, .int .i64 0] 45)
          have hb2 := ML.below1 w1 (.cells #[.string key, .string v0, .int .i64 0] 45)
          have hA2 := hA1.keep hb2
          obtain ⟨v', w', hrun, hR, hlow, hsz, hoth⟩ := xapp hA2.2.1 (by simp; omega) ⟨key, v0, 0⟩ w1.heap.size hblk hl
          obtain ⟨aq, cq, ev, _⟩ := hR.seq
          subst ev
          have cr := hA1.1
          have crc : w1.cell? ⟨rb, 0, none⟩ = some v := by rw [Go.Joins.cell_of_block cr]; rfl
          have hrl : rb < w1.heap.size := (Array.getElem?_eq_some_iff.1 cr).1
          have hrl2 : rb < (w1.alloc (.cells #[.string key, .string v0, .int .i64 0] 45)).heap.size := by simp; omega
          have hro : v.ownBlock ≠ some rb := fun e => by have := own_ge hA1.2.1 e; omega
          have crw : w'.heap[rb]? = some (.cells #[v] 22 (0, 0)) := (hoth rb hrl2 hro).trans hA2.1
          have crw0 : w'.cell? ⟨rb, 0, none⟩ = some v := by rw [Go.Joins.cell_of_block crw]; rfl
          have crf : w'.frozen? ⟨rb, 0, none⟩ = false := Go.Joins.unfrozen_of_block crw 0
          have hrl3 : rb < w'.heap.size := (Array.getElem?_eq_some_iff.1 crw).1
          have FIN := xhide (show Rnd w (w'.setCell ⟨rb, 0, none⟩ (.slice aq (acc ++ [(⟨key, v0, 0⟩ : Ro)]).length cq)) rb v ∧ ∃ v'', Acc (w'.setCell ⟨rb, 0, none⟩ (.slice aq (acc ++ [(⟨key, v0, 0⟩ : Ro)]).length cq)) B rb v'' (acc ++ seeL S C.key C.high key) from by
            rw [hs]
            refine ⟨⟨(((hb.trans (hb2.mono hb.size)).mono (Nat.zero_le _)).trans ((hlow _ 0 (Nat.zero_le _) (Below.refl 0 _)).trans ((Below.refl 0 w').setCell (p := ⟨rb, 0, none⟩) (Nat.zero_le _) _))), fun j hj n1 n2 => ?_⟩, _, (Go.Joins.block_setCell crw _).trans rfl, ?_, fun q => by simp at q⟩
            · have hj1 : j < w1.heap.size := Nat.lt_of_lt_of_le hj hb.size
              exact (set_else n1).trans ((hoth j (by simp; omega) n2).trans ((hb2.block j hj1).trans (hb.block j hj)))
            · have hne : (Value.slice aq (acc ++ [(⟨key, v0, 0⟩ : Ro)]).length cq).ownBlock ≠ some rb := fun e => by have := own_ge hR e; omega
              exact ownsRow_setCell_other hR hne _)
          clear hA1 hA2 hb hb2 hR hlow hsz hoth cr crw HK HA H hs hblk hro
          have HRUN := xhide hrun
          clear hrun
          go_wp2_with (first
            | (at_builtin; refine Lib.wpList_append_run _ rfl _ _ _ _ rfl _ _ rfl rfl _ w' HRUN.out ?_)
            | go_in)
          go_wp2
          go_end0
          exact ⟨rfl, by have := FIN.out; rwa [List.length_append] at this⟩
end
end Go.Proofs.Ytheidhkmmihjlaa
