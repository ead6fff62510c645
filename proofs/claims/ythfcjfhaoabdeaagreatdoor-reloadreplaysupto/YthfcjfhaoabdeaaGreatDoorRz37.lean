/-
  Rq0: What commits leave does not hang on where they lie; commits that are copied.
-/
import Derived.Test.YthfcjfhaoabdeaaGreatDoorRz26
import Derived.Test.YthfcjfhaoabdeaaGreatDoorRz36
set_option linter.unusedVariables false
set_option linter.unusedSimpArgs false
namespace Go.Proofs.YthfcjfhaoabdeaaGreatDoor
open Go.RowKit
open ML (RS Rr)

def strp (c : Kc) : Kc := ⟨c.t, none, 0, 0, c.ws⟩
theorem tw_map {α β : Type} (f : α → β) (p : β → Bool) : ∀ l : List α, (l.map f).takeWhile p = (l.takeWhile (fun x => p (f x))).map f ∧ (l.map f).dropWhile p = (l.dropWhile (fun x => p (f x))).map f
  | [] => ⟨rfl, rfl⟩
  | a :: l => by
    have ih := tw_map f p l
    rw [List.map_cons, List.takeWhile_cons, List.dropWhile_cons, List.takeWhile_cons, List.dropWhile_cons]
    cases h : p (f a) with
    | true => simp [ih.1, ih.2]
    | false => simp
theorem insT_strp (out : List Kc) (c : Kc) : insT (out.map strp) (strp c) = (insT out c).map strp := by
  unfold insT
  have h := tw_map strp (fun x => decide (x.t < (strp c).t)) out
  rw [h.1, h.2]
  simp only [List.map_append, List.map_cons]
  rfl
theorem dupT_strp (out : List Kc) (c : Kc) : dupT (out.map strp) (strp c) = dupT out c := by
  unfold dupT
  rw [(tw_map strp (fun x => decide (x.t < (strp c).t)) out).2]
  show (match (out.dropWhile (fun x => decide (x.t < c.t))).map strp with | [] => false | a :: _ => decide (a.t = c.t)) = _
  cases out.dropWhile (fun x => decide (x.t < c.t)) with
  | nil => rfl
  | cons a m => rfl
theorem laterG_strp (frm : Int) : ∀ (l out : List Kc), laterG frm (out.map strp) (l.map strp) = (laterG frm out l).map (List.map strp)
  | [], out => rfl
  | c :: l, out => by
    show (if (strp c).t ≤ frm then laterG frm (out.map strp) (l.map strp) else if dupT (out.map strp) (strp c) then none else laterG frm (insT (out.map strp) (strp c)) (l.map strp)) = (if c.t ≤ frm then laterG frm out l else if dupT out c then none else laterG frm (insT out c) l).map (List.map strp)
    rw [dupT_strp, insT_strp]
    show (if c.t ≤ frm then _ else _) = _
    split
    · exact laterG_strp frm l out
    · split
      · rfl
      · exact laterG_strp frm l (insT out c)
theorem doneC_strp : ∀ (S : List Kc) (L : List ML.Ro), doneC L (S.map strp) = doneC L S
  | [], L => rfl
  | c :: S, L => doneC_strp S (doneW c.t L c.ws)
theorem lastT_strp : ∀ (S : List Kc) (frm : Int), lastT frm (S.map strp) = lastT frm S
  | [], frm => rfl
  | c :: S, frm => lastT_strp S c.t
theorem allC_strp (l : List Kc) : allC (l.map strp) = allC l := by unfold allC; rw [List.all_map]; rfl
theorem rplD_strp (L : List ML.Ro) (frm : Int) (l : List Kc) : rplD L frm (l.map strp) = rplD L frm l := by
  unfold rplD
  rw [allC_strp, show laterG frm [] (l.map strp) = laterG frm (([] : List Kc).map strp) (l.map strp) from rfl, laterG_strp]
  split
  · cases laterG frm [] l with
    | none => rfl
    | some S => simp [doneC_strp, lastT_strp]
  · rfl
theorem rplD_same {L : List ML.Ro} {frm : Int} {a b : List Kc} (h : a.map strp = b.map strp) : rplD L frm a = rplD L frm b := by
  rw [← rplD_strp, h, rplD_strp]
theorem cnt_strp (l : List Kc) : cnt (l.map strp) = cnt l := by unfold cnt; rw [List.map_map]; rfl

/-- An own row of writes, and one of commits: two blocks. -/
theorem wo_ne {w : World} {B B' : Nat} {v u : Value} {ys : List Kc} {ws : List Wr} (h : Kr w B v ys) (k : Wo w B' u ws) {j : Nat} (e1 : v.ownBlock = some j) (e2 : u.ownBlock = some j) : False := by
  rcases h.2 with ⟨rfl, _⟩ | ⟨g, c, cur, rfl, _, hh, _⟩
  · cases e1
  · rcases k.2 with ⟨rfl, _⟩ | ⟨g', c', cur', rfl, _, hh', _⟩
    · cases e2
    · simp only [Value.ownBlock, Option.some.injEq] at e1 e2
      subst e1
      subst e2
      rw [hh] at hh'
      injection hh' with q
      injection q with _ q2
      exact absurd q2 (by decide)
end Go.Proofs.YthfcjfhaoabdeaaGreatDoor

/-
  Rq1: Commits that are copied, one more.
-/
set_option linter.unusedVariables false
set_option linter.unusedSimpArgs false
namespace Go.Proofs.YthfcjfhaoabdeaaGreatDoor
open Go.RowKit
open ML (RS Rr)

theorem kapp2 {w : World} {B : Nat} {v x : Value} {l m : List Kc} (h : Kr w B v l) (hB : B ≤ w.heap.size) (hs : Svk w x m) (hl : l.length + m.length ≤ 1000000000) :
    ∃ v' w', (Builtin.append_ #[23, 23] 23 #[v, x]).run Tryz.prog w = .ok v' w' ∧ Kr w' B v' (l ++ m) ∧ (∀ a n, n ≤ B → Below n a w → Below n a w') ∧ w.heap.size ≤ w'.heap.size ∧ (∀ k, k < w.heap.size → v.ownBlock ≠ some k → w'.heap[k]? = w.heap[k]?) := by
  obtain ⟨i0, hi0, z0, z1, z2⟩ := info_parts infoKc
  rcases hs with ⟨rfl, rfl⟩ | ⟨ad, c, rfl, hc⟩
  · refine ⟨v, w, run_append_owned_none (P := Tryz.prog) (w := w) B 23 23 27 i0 2 Tryz.underlying23 hi0 v _ _ h, by rw [List.append_nil]; exact h, fun _ _ _ hb => hb, Nat.le_refl _, fun _ _ _ => rfl⟩
  · obtain ⟨v', w', hr, ho, hg, _, _⟩ := run_append_own_at (P := Tryz.prog) w B 23 23 27 i0 _ 2 32 Tryz.underlying23 hi0 z0 z1 z2 rfl (by decide) v _ _ h ad m.length c (kc m) (kc_len m) hc (kc_one m) (by unfold maxLen; omega) (by omega) hB
    refine ⟨v', w', hr, ?_, fun a n hn hb => hb.grown hg (by omega) (fun k e => Nat.le_trans hn (World.ownsRow.lt h k e).1), hg.size, fun k hk hne => hg.block k hk (fun e => hne e.symm)⟩
    unfold Kr
    rw [List.length_append, kc_append]
    exact ho
/-- Commits that were copied so far. -/
def Cy (w2 wr : World) (v : Value) (cs : List Kc) (k : Nat) : Prop :=
  ∃ ys, Kr wr w2.heap.size v ys ∧ ys.map strp = (cs.take k).map strp ∧ (∀ c ∈ ys, Wo wr w2.heap.size (.slice c.ao c.len c.cap) c.ws) ∧ Below w2.heap.size w2 wr
theorem Cy.round {w2 wr : World} {v : Value} {cs : List Kc} {k : Nat} {x : Kc} (h : Cy w2 wr v cs k) (hx : cs[k]? = some x) (hk : k ≤ 1000000) (hxl : x.ws.length ≤ 10000000) (hs : Svw wr (.slice x.ao x.len x.cap) x.ws) :
    ∃ a' c' Wc, (Builtin.append_ #[25, 25] 25 #[.slice (some ⟨wr.heap.size + 1, 0, none⟩) 0 0, .slice x.ao x.len x.cap]).run Tryz.prog ((wr.alloc (.cells #[.int .i64 x.t, .slice x.ao x.len x.cap] 27)).alloc (.cells #[] 37)) = .ok (.slice a' x.ws.length c') Wc ∧
      Wc.heap[wr.heap.size]? = some (.cells #[.int .i64 x.t, .slice x.ao x.len x.cap] 27 (0, 0)) ∧ Below w2.heap.size w2 Wc ∧
      ∃ vy Wf, (Builtin.append_ #[23, 23] 23 #[v, .slice (some ⟨Wc.heap.size, 0, none⟩) 1 1]).run Tryz.prog ((Wc.setCell ⟨wr.heap.size, 1, none⟩ (.slice a' x.ws.length c')).alloc (.cells #[.int .i64 x.t, .slice a' x.ws.length c'] 27)) = .ok vy Wf ∧ Cy w2 Wf vy cs (k + 1) := by
  obtain ⟨ys, hK, hm, hW, hb⟩ := h
  have hsz := hb.size
  have hyl : ys.length ≤ k := by have := congrArg List.length hm; simp only [List.length_map, List.length_take] at this; omega
  obtain ⟨Wa, hWa⟩ : ∃ Wa, Wa = wr.alloc (.cells #[.int .i64 x.t, .slice x.ao x.len x.cap] 27) := ⟨_, rfl⟩
  have ba : Below wr.heap.size wr Wa := by rw [hWa]; exact ML.below1 _ _
  have sa : Wa.heap.size = wr.heap.size + 1 := by rw [hWa]; simp
  have ka : Wa.heap[wr.heap.size]? = some (.cells #[.int .i64 x.t, .slice x.ao x.len x.cap] 27 (0, 0)) := by rw [hWa]; exact heap_alloc_new _ _
  have bb : Below Wa.heap.size Wa (Wa.alloc (.cells #[] 37)) := ML.below1 _ _
  have hsv : Svw (Wa.alloc (.cells #[] 37)) (.slice x.ao x.len x.cap) x.ws := Svw.keep (Svw.keep hs ba) bb
  obtain ⟨v', Wc, hrun, hown, hB, hs1, _⟩ := wapp (w := Wa.alloc (.cells #[] 37)) (wo_empty Wa) (by simp) hsv (by simp; omega)
  rw [List.nil_append] at hown
  have bc : Below Wa.heap.size Wa Wc := hB _ _ (Nat.le_refl _) bb
  have bwc : Below wr.heap.size wr Wc := ba.trans (bc.mono (by omega))
  have sc := bc.size
  obtain ⟨a', c', ev, _⟩ := hown.seq
  subst ev
  rw [sa] at hrun
  have kc1 := (bc.block wr.heap.size (by omega)).trans ka
  refine ⟨a', c', Wc, by rw [← hWa]; exact hrun, kc1, hb.trans (bwc.mono hsz), ?_⟩
  obtain ⟨Wd, hWd⟩ : ∃ Wd, Wd = Wc.setCell ⟨wr.heap.size, 1, none⟩ (.slice a' x.ws.length c') := ⟨_, rfl⟩
  have sd : Wd.heap.size = Wc.heap.size := by rw [hWd]; simp
  have bd : ∀ j, j ≠ wr.heap.size → Wd.heap[j]? = Wc.heap[j]? := fun j hj => by
    rw [hWd]
    simp only [World.setCell]
    rw [Array.getElem?_modify, if_neg (fun e => hj e.symm)]
  have be : ∀ j, j < Wc.heap.size → j ≠ wr.heap.size → (Wd.alloc (.cells #[.int .i64 x.t, .slice a' x.ws.length c'] 27)).heap[j]? = Wc.heap[j]? := fun j hj hn => (Below.heap_alloc _ _ _ (by omega)).trans (bd j hn)
  have beo : ∀ j, j < wr.heap.size → (Wd.alloc (.cells #[.int .i64 x.t, .slice a' x.ws.length c'] 27)).heap[j]? = wr.heap[j]? := fun j hj => (be j (by omega) (by omega)).trans (bwc.block j hj)
  have hKe : Kr (Wd.alloc (.cells #[.int .i64 x.t, .slice a' x.ws.length c'] 27)) w2.heap.size v ys := row_on hK (fun j e => beo j (World.ownsRow.lt hK j e).2)
  have bwe : Below w2.heap.size w2 (Wd.alloc (.cells #[.int .i64 x.t, .slice a' x.ws.length c'] 27)) := by
    refine Below.alloc ?_ (by have := bwc.size; omega) _
    rw [hWd]
    exact (hb.trans (bwc.mono hsz)).setCell (p := ⟨wr.heap.size, 1, none⟩) (by exact hsz) _
  obtain ⟨vy, Wf, hrun2, hown2, hB2, hs2, hpre⟩ := kapp2 hKe (by have := bwc.size; simp [sd]; omega) (svk_one Wd ⟨x.t, a', x.ws.length, c', x.ws⟩) (by simp; omega)
  rw [sd] at hrun2
  refine ⟨vy, Wf, by rw [← hWd]; exact hrun2, ys ++ [⟨x.t, a', x.ws.length, c', x.ws⟩], hown2, ?_, ?_, hB2 _ _ (Nat.le_refl _) bwe⟩
  · rw [ML.take_snoc hx, List.map_append, List.map_append, hm]
    rfl
  · intro c hc
    rcases List.mem_append.1 hc with q | q
    · have h1 := hW c q
      refine row_on h1 (fun j e => ?_)
      have hj := (World.ownsRow.lt h1 j e).2
      exact (hpre j (by have := bwc.size; simp [sd]; omega) (fun e2 => wo_ne hK h1 e2 e)).trans (beo j hj)
    · simp only [List.mem_cons, List.not_mem_nil, or_false] at q
      subst q
      have h1 : Wo Wc w2.heap.size (.slice a' x.ws.length c') x.ws := Go.Joins.ownsRow_le hown (by omega)
      refine row_on h1 (fun j e => ?_)
      have hj := (World.ownsRow.lt hown j e)
      refine (hpre j (by simp [sd]; omega) (fun e2 => ?_)).trans (be j hj.2 (by omega))
      have := (World.ownsRow.lt hK j e2).2
      omega
end Go.Proofs.YthfcjfhaoabdeaaGreatDoor
