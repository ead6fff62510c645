/-
  Mr3: The document's own: put, Rows.
-/
import Derived.Test.YtffgmpgmflbekaaGreatDoorMr2
set_option linter.unusedVariables false
set_option linter.unusedSimpArgs false
namespace Go.Proofs.YtffgmpgmflbekaaGreatDoor
open Go.RowKit
attribute [local go_sem] Oper.semAt_some

def putD (l : List Ro) (r : Ro) : List Ro := if hasK l r.k then l else l.takeWhile (fun p => nless p.k r.k) ++ [r] ++ l.dropWhile (fun p => nless p.k r.k)
theorem while_at {α : Type} (f : α → Bool) : ∀ (l : List α) (k : Nat), (∀ x ∈ l.take k, f x = true) → (∀ x, l[k]? = some x → f x = false) → l.takeWhile f = l.take k ∧ l.dropWhile f = l.drop k
  | [], k, _, _ => by simp
  | x :: l, 0, _, h => by
    have := h x rfl
    simp [List.takeWhile, List.dropWhile, this]
  | x :: l, k + 1, h1, h2 => by
    have hx : f x = true := h1 x (by simp)
    obtain ⟨e1, e2⟩ := while_at f l k (fun y hy => h1 y (by simp [hy])) (fun y hy => h2 y (by simpa using hy))
    simp [List.takeWhile, List.dropWhile, hx, e1, e2]

section
set_option maxHeartbeats 8000000
set_option maxRecDepth 100000
variable {w : World} {B : Nat} {v : Value} {l : List Ro}
theorem put_any (h : Rr w B v l) (hB : B ≤ w.heap.size) (hl : l.length ≤ 10000000) (r : Ro) :
    Calls Tryz.prog 53 #[v, r.val] w fun e w' => ∃ v', e = .returned v' ∧ Rr w' B v' (putD l r) ∧ Below w.heap.size w w' := by
  obtain ⟨ao, cap, rfl, hs⟩ := h.seq
  have hcap := hs.2.1
  have hcm := hs.2.2.1
  unfold maxLen at hcm
  have hn : ao = none → cap = 0 := fun e => by
    subst e
    rcases h.2 with ⟨q, _⟩ | ⟨g, c, cur, q, _⟩
    · injection q
    · injection q with q1; cases q1
  obtain ⟨W0, hW0⟩ : ∃ W0, W0 = w.alloc (.cells #[.string r.k, .string r.v, .int .i64 r.t] 28) := ⟨_, rfl⟩
  have hb : W0.heap[w.heap.size]? = some (.cells #[.string r.k, .string r.v, .int .i64 r.t] 28 (0, 0)) := by rw [hW0]; exact heap_alloc_new _ _
  have q0 : W0.cell? ⟨w.heap.size, 0, none⟩ = some (.string r.k) := by rw [Go.Joins.cell_of_block hb]; rfl
  have q1 : W0.cell? ⟨w.heap.size, 1, none⟩ = some (.string r.v) := by rw [Go.Joins.cell_of_block hb]; rfl
  have q2 : W0.cell? ⟨w.heap.size, 2, none⟩ = some (.int .i64 r.t) := by rw [Go.Joins.cell_of_block hb]; rfl
  have B0 : Below w.heap.size w W0 := by rw [hW0]; exact below1 w _
  have hsz0 : W0.heap.size = w.heap.size + 1 := by rw [hW0]; simp
  have HS0 := hide2 (hs.keep B0)
  have HH := hide2 (has_any (hs.keep B0) r.k)
  have HR0 := hide2 (Rr.keep h B0)
  have HSV := hide2 (RS.sv (hs.keep B0) hn)
  have HB0 := hide2 B0
  have hQ : Hid (W0.cell? ⟨w.heap.size, 0, none⟩ = some (.string r.k) ∧ W0.cell? ⟨w.heap.size, 1, none⟩ = some (.string r.v) ∧ W0.cell? ⟨w.heap.size, 2, none⟩ = some (.int .i64 r.t)) := hide2 ⟨q0, q1, q2⟩
  clear h hs hn B0 hb
  go_enter Tryz.func53, Tryz.ntmps53
  go_wp2_with fail
  rw [← hW0]
  clear hW0
  go_wp2_with fail
  refine HH.out.mono ?_
  rintro e w1 ⟨rfl, hw1⟩
  subst hw1
  clear HH q1 q2
  cases hh : hasK l r.k with
  | true =>
    have HE : Hid (putD l r = l) := hide2 (by unfold putD; rw [hh, if_pos rfl])
    clear hh
    go_wp2
    go_ret
    exact ⟨_, rfl, by rw [HE.out]; exact HR0.out, HB0.out⟩
  | false =>
    have HP : Hid (putD l r = l.takeWhile (fun p => nless p.k r.k) ++ [r] ++ l.dropWhile (fun p => nless p.k r.k)) := hide2 (by unfold putD; rw [hh]; rfl)
    clear hh
    go_wp2_with fail
    go_loopw [6, 7] (fun v i wr => ∃ k : Nat, k ≤ l.length ∧ i = .int .i64 (k : Nat) ∧ Hid (∀ x ∈ l.take k, nless x.k r.k = true) ∧ Hid (Rr wr w1.heap.size v (l.take k)) ∧ Hid (Below w1.heap.size w1 wr)) (fun _ i _ => l.length - (intOf i).toNat)
    case atStart => exact ⟨0, by omega, rfl, hide2 (fun x hx => by simp at hx), hide2 (rr_nil _ _), hide2 (Below.refl _ _)⟩
    case round =>
      obtain ⟨k, hk, rfl, HALL, HO, HB⟩ := hrel
      have hsz := HB.out.size
      have htl : (l.take k).length = k := by rw [List.length_take, Nat.min_eq_left hk]
      have q0 := (HB.out.cell (p := ⟨w.heap.size, 0, none⟩) (by show w.heap.size < _; omega)).trans hQ.out.1
      have q1 := (HB.out.cell (p := ⟨w.heap.size, 1, none⟩) (by show w.heap.size < _; omega)).trans hQ.out.2.1
      have q2 := (HB.out.cell (p := ⟨w.heap.size, 2, none⟩) (by show w.heap.size < _; omega)).trans hQ.out.2.2
      by_cases hgo : ∃ p, l[k]? = some p ∧ nless p.k r.k = true
      · obtain ⟨p, hp, hps⟩ := hgo
        have hkl := (List.getElem?_eq_some_iff.1 hp).1
        obtain ⟨g, off, rfl, hg, hc⟩ := RS.at HS0.out (by omega)
        have c0 := (HB.out.cell (p := ⟨g, off + k * 3, none⟩) hg).trans (hc k p hp).1
        have c1 := (HB.out.cell (p := ⟨g, off + k * 3 + 1, none⟩) hg).trans (hc k p hp).2.1
        have c2 := (HB.out.cell (p := ⟨g, off + k * 3 + 2, none⟩) hg).trans (hc k p hp).2.2
        have HTS := hide2 (take_snoc hp)
        have hc2 : (k : Int) < (l.length : Int) := by omega
        have t1 : Op.bytesLess p.k.toList r.k.toList = true := hps
        have HA2 : Hid (∀ x ∈ l.take (k + 1), nless x.k r.k = true) := hide2 (fun x hx => by
          rw [HTS.out] at hx
          rcases List.mem_append.1 hx with hx | hx
          · exact HALL.out x hx
          · simp at hx; subst hx; exact hps)
        clear hc HALL hp hps
        go_wp2_with fail
        go_quiet (fail)
        go_wp2_with (at_builtin; refine Hid.out ?_)
        obtain ⟨v', w2, hrun, hown, hB2, hs2, _⟩ := rapp (w := (wr.drewN nq).alloc (.cells #[.string p.k, .string p.v, .int .i64 p.t] 28)) (World.ownsRow.alloc HO.out _) (by simp; omega) (sv_one (wr.drewN nq) p) (by rw [htl]; simp; omega)
        have HO2 : Hid (Rr w2 w1.heap.size v' (l.take (k + 1))) := hide2 (by rw [HTS.out]; exact hown)
        have HBW2 : Hid (Below w1.heap.size w1 w2) := hide2 (hB2 _ _ (Nat.le_refl _) ((below_drewN HB.out nq).alloc hsz _))
        have HRUN := hide2 hrun
        clear hrun hown hB2 HO HTS c0 c1 c2
        refine hide2 ?_
        refine Lib.wpList_append_run _ rfl _ _ _ _ rfl _ _ rfl rfl v' w2 HRUN.out ?_
        go_frame
        go_wp2_with fail
        go_roundw
        case rel => exact ⟨k + 1, by omega, by go_num, HA2, HO2, HBW2⟩
        case measure => simp [intOf]; omega
      · have hstop : ∀ x, l[k]? = some x → nless x.k r.k = false := fun x hx => by
          cases e : nless x.k r.k with
          | false => rfl
          | true => exact absurd ⟨x, hx, e⟩ hgo
        obtain ⟨e1, e2⟩ := while_at (fun p : Ro => nless p.k r.k) l k HALL.out hstop
        have HFIN : Hid (putD l r = l.take k ++ [r] ++ l.drop k) := hide2 (by rw [HP.out, e1, e2])
        obtain ⟨xv, hsl, hsv⟩ := HSV.out.from hcap k hk
        have HSL := hide2 hsl
        have HSVX := hide2 hsv
        have hdl : (l.drop k).length ≤ 10000000 := by rw [List.length_drop]; omega
        clear e1 e2 HALL hgo hsl hsv HP
        by_cases hkl : k < l.length
        · obtain ⟨p, hp⟩ := some_at (l := l) (i := k) (n := l.length) rfl hkl
          obtain ⟨g, off, rfl, hg, hc⟩ := RS.at HS0.out (by omega)
          have c0 := (HB.out.cell (p := ⟨g, off + k * 3, none⟩) hg).trans (hc k p hp).1
          have hc2 : (k : Int) < (l.length : Int) := by omega
          have t1 : Op.bytesLess p.k.toList r.k.toList = false := hstop p hp
          clear hc hstop hp
          go_wp2_with fail
          go_quiet (fail)
          go_wp2_with (at_builtin; refine Hid.out ?_)
          obtain ⟨v', w2, hrun, hown, hB2, hs2, _⟩ := rapp (w := (wr.drewN nq).alloc (.cells #[.string r.k, .string r.v, .int .i64 r.t] 28)) (World.ownsRow.alloc HO.out _) (by simp; omega) (sv_one (wr.drewN nq) r) (by rw [htl]; simp; omega)
          have HBW2 : Hid (Below w1.heap.size w1 w2) := hide2 (hB2 _ _ (Nat.le_refl _) ((below_drewN HB.out nq).alloc hsz _))
          have hs3 := HBW2.out.size
          have hsv2 : Sv w2 xv (l.drop k) := HSVX.out.keep HBW2.out
          obtain ⟨v3, w3, hrun3, hown3, hB3, hs4, _⟩ := rapp hown hs3 hsv2 (by rw [List.length_append, htl]; simp; omega)
          have HO3 : Hid (Rr w3 B v3 (putD l r)) := hide2 (by rw [HFIN.out]; exact Go.Joins.ownsRow_le hown3 (by omega))
          have HBW3 : Hid (Below w.heap.size w w3) := hide2 (HB0.out.trans ((hB3 _ _ (Nat.le_refl _) HBW2.out).mono (by omega)))
          have HRUN := hide2 hrun
          have HRUN3 := hide2 hrun3
          have hsl : ∀ u : World, (Instr.slice 22 (.slice (some ⟨g, off, none⟩) l.length cap) (some (.int .i64 (k : Int))) none none).run Tryz.prog u = .ok xv u := HSL.out
          clear hrun hown hB2 HO HBW2 hsv2 hrun3 hown3 hB3 HFIN
          refine hide2 ?_
          refine Lib.wpList_append_run _ rfl _ _ _ _ rfl _ _ rfl rfl v' w2 HRUN.out ?_
          go_frame
          go_wp2_with (at_builtin; refine Hid.out ?_)
          refine hide2 ?_
          refine Lib.wpList_append_run _ rfl _ _ _ _ rfl _ _ rfl rfl v3 w3 HRUN3.out ?_
          go_frame
          go_wp2
          go_ret
          exact ⟨_, rfl, HO3.out, HBW3.out⟩
        · have hc2 : ¬ (k : Int) < (l.length : Int) := by omega
          clear hstop
          go_wp2_with fail
          go_quiet (fail)
          go_wp2_with (at_builtin; refine Hid.out ?_)
          obtain ⟨v', w2, hrun, hown, hB2, hs2, _⟩ := rapp (w := (wr.drewN nq).alloc (.cells #[.string r.k, .string r.v, .int .i64 r.t] 28)) (World.ownsRow.alloc HO.out _) (by simp; omega) (sv_one (wr.drewN nq) r) (by rw [htl]; simp; omega)
          have HBW2 : Hid (Below w1.heap.size w1 w2) := hide2 (hB2 _ _ (Nat.le_refl _) ((below_drewN HB.out nq).alloc hsz _))
          have hs3 := HBW2.out.size
          have hsv2 : Sv w2 xv (l.drop k) := HSVX.out.keep HBW2.out
          obtain ⟨v3, w3, hrun3, hown3, hB3, hs4, _⟩ := rapp hown hs3 hsv2 (by rw [List.length_append, htl]; simp; omega)
          have HO3 : Hid (Rr w3 B v3 (putD l r)) := hide2 (by rw [HFIN.out]; exact Go.Joins.ownsRow_le hown3 (by omega))
          have HBW3 : Hid (Below w.heap.size w w3) := hide2 (HB0.out.trans ((hB3 _ _ (Nat.le_refl _) HBW2.out).mono (by omega)))
          have HRUN := hide2 hrun
          have HRUN3 := hide2 hrun3
          have hsl : ∀ u : World, (Instr.slice 22 (.slice ao l.length cap) (some (.int .i64 (k : Int))) none none).run Tryz.prog u = .ok xv u := HSL.out
          clear hrun hown hB2 HO HBW2 hsv2 hrun3 hown3 hB3 HFIN
          refine hide2 ?_
          refine Lib.wpList_append_run _ rfl _ _ _ _ rfl _ _ rfl rfl v' w2 HRUN.out ?_
          go_frame
          go_wp2_with (at_builtin; refine Hid.out ?_)
          refine hide2 ?_
          refine Lib.wpList_append_run _ rfl _ _ _ _ rfl _ _ rfl rfl v3 w3 HRUN3.out ?_
          go_frame
          go_wp2
          go_ret
          exact ⟨_, rfl, HO3.out, HBW3.out⟩

/-- The rows of two files, less what is gone: as the document says it. -/
def rowsD (a b : List Ro) (gone : List Gn) : List Ro := (a.filter fun r => !namedB gone r).foldl putD (b.foldl putD [])
theorem putD_len (l : List Ro) (r : Ro) : (putD l r).length ≤ l.length + 1 := by
  unfold putD
  split
  · omega
  · have := congrArg List.length (List.takeWhile_append_dropWhile (p := fun p : Ro => nless p.k r.k) (l := l))
    simp only [List.length_append, List.length_singleton] at *
    omega
theorem fold_len (l : List Ro) : ∀ m : List Ro, (l.foldl putD m).length ≤ m.length + l.length := by
  induction l with
  | nil => intro m; simp
  | cons r l ih =>
    intro m
    have := ih (putD m r)
    have h2 := putD_len m r
    simp only [List.foldl_cons, List.length_cons]
    omega

variable {ao bo go : Option Addr} {la ca lb cb lg cg : Nat} {a b : List Ro} {gone : List Gn}
theorem rowsD_any (ha : RS w ao la ca a) (hb : RS w bo lb cb b) (hg : GS w go lg cg gone) (h1 : la ≤ 1000000) (h2 : lb ≤ 1000000) :
    Calls Tryz.prog 11 #[.slice ao la ca, .slice bo lb cb, .slice go lg cg] w fun e w' => ∃ v, e = .returned v ∧ Rr w' w.heap.size v (rowsD a b gone) ∧ Below w.heap.size w w' := by
  have hla := ha.1
  have hlb := hb.1
  have HA := hide2 ha
  have HB := hide2 hb
  have HG := hide2 hg
  clear ha hb hg
  go_enter Tryz.func11, Tryz.ntmps11
  go_wp2_with fail
  go_loopw [7, 8] (fun v i wr => ∃ k : Nat, k ≤ lb ∧ i = .int .i64 (k : Nat) ∧ Hid (Rr wr w.heap.size v ((b.take k).foldl putD [])) ∧ Hid (Below w.heap.size w wr)) (fun _ i _ => lb - (intOf i).toNat)
  case atStart => exact ⟨0, by omega, rfl, hide2 (rr_nil _ _), hide2 (Below.refl _ _)⟩
  case round =>
    obtain ⟨k, hk, rfl, HR, HBW⟩ := hrel
    by_cases hlt : k < lb
    · obtain ⟨r, hr⟩ := some_at hlb hlt
      obtain ⟨g, off, rfl, hgl, hc⟩ := RS.at HB.out (by omega)
      have c0 := (HBW.out.cell (p := ⟨g, off + k * 3, none⟩) hgl).trans (hc k r hr).1
      have c1 := (HBW.out.cell (p := ⟨g, off + k * 3 + 1, none⟩) hgl).trans (hc k r hr).2.1
      have c2 := (HBW.out.cell (p := ⟨g, off + k * 3 + 2, none⟩) hgl).trans (hc k r hr).2.2
      have HTS := hide2 (take_snoc hr)
      have d1 : (k : Int) < (lb : Int) := by omega
      have hlen : ((b.take k).foldl putD []).length ≤ 10000000 := by have := fold_len (b.take k) []; rw [List.length_take] at this; simp at this; omega
      have HP := hide2 (put_any HR.out HBW.out.size hlen r)
      obtain ⟨aq, cq, ev, _⟩ := HR.out.seq
      subst ev
      clear hc hr hlen
      go_wp2_with fail
      refine HP.out.mono ?_
      rintro e w2 ⟨v2, rfl, hr2, hb2⟩
      have HR2 : Hid (Rr w2 w.heap.size v2 ((b.take (k + 1)).foldl putD [])) := hide2 (by rw [HTS.out, List.foldl_append]; exact hr2)
      have HB2 := hide2 (HBW.out.trans (hb2.mono HBW.out.size))
      obtain ⟨aq2, cq2, ev, _⟩ := hr2.seq
      subst ev
      clear hr2 hb2 HP HR HTS
      go_wp2_with fail
      go_roundw
      case rel => exact ⟨k + 1, by omega, by go_num, HR2, HB2⟩
      case measure => simp [intOf]; omega
    · have e1 : k = lb := by omega
      subst e1
      have d1 : ¬ (k : Int) < (k : Int) := by omega
      have ec : b.take k = b := List.take_of_length_le (by omega)
      rw [ec] at HR
      obtain ⟨aq, cq, ev, _⟩ := HR.out.seq
      subst ev
      go_wp2_with fail
      go_loopw [7, 9] (fun v i wr => ∃ j : Nat, j ≤ la ∧ i = .int .i64 (j : Nat) ∧ Hid (Rr wr w.heap.size v (rowsD (a.take j) b gone)) ∧ Hid (Below w.heap.size w wr)) (fun _ i _ => la - (intOf i).toNat)
      case atStart => exact ⟨0, by omega, rfl, HR, HBW⟩
      case round =>
        obtain ⟨j, hj, rfl, HR, HBW⟩ := hrel
        obtain ⟨aq, cq, ev, _⟩ := HR.out.seq
        subst ev
        by_cases hlt : j < la
        · obtain ⟨r, hr⟩ := some_at hla hlt
          obtain ⟨g, off, rfl, hgl, hc⟩ := RS.at HA.out (by omega)
          have HC : Hid (∀ u : World, Below w.heap.size w u → u.cell? ⟨g, off + j * 3, none⟩ = some (.string r.k) ∧ u.cell? ⟨g, off + j * 3 + 1, none⟩ = some (.string r.v) ∧ u.cell? ⟨g, off + j * 3 + 2, none⟩ = some (.int .i64 r.t)) := hide2 (fun u hu => ⟨(hu.cell (p := ⟨g, off + j * 3, none⟩) hgl).trans (hc j r hr).1, (hu.cell (p := ⟨g, off + j * 3 + 1, none⟩) hgl).trans (hc j r hr).2.1, (hu.cell (p := ⟨g, off + j * 3 + 2, none⟩) hgl).trans (hc j r hr).2.2⟩)
          obtain ⟨c0, c1, c2⟩ := HC.out _ HBW.out
          have HTS : Hid (rowsD (a.take (j + 1)) b gone = if namedB gone r then rowsD (a.take j) b gone else putD (rowsD (a.take j) b gone) r) := hide2 (by
            unfold rowsD
            rw [take_snoc hr, List.filter_append]
            cases hn : namedB gone r <;> simp [hn, List.foldl_append])
          have d1 : (j : Int) < (la : Int) := by omega
          have hlen : (rowsD (a.take j) b gone).length ≤ 10000000 := by
            have q1 := fold_len ((a.take j).filter fun r => !namedB gone r) (b.foldl putD [])
            have q2 := fold_len b []
            have q3 := List.length_filter_le (fun r => !namedB gone r) (a.take j)
            rw [List.length_take] at q3
            unfold rowsD
            simp at q2
            omega
          have HN := hide2 (named_any (HG.out.keep HBW.out) r)
          clear hc hr
          go_wp2_with fail
          refine HN.out.mono ?_
          rintro e w2 ⟨rfl, hb2⟩
          have HB2 := hide2 (HBW.out.trans (hb2.mono HBW.out.size))
          have HR2 := hide2 (Rr.keep HR.out hb2)
          obtain ⟨c0, c1, c2⟩ := HC.out _ HB2.out
          clear HN HR hb2
          cases hn : namedB gone r with
          | true =>
            rw [hn] at HTS
            clear hn
            go_wp2_with fail
            go_roundw
            case rel => exact ⟨j + 1, by omega, by go_num, by rw [HTS.out]; exact HR2, HB2⟩
            case measure => simp [intOf]; omega
          | false =>
            rw [hn] at HTS
            have HP := hide2 (put_any HR2.out HB2.out.size hlen r)
            clear hn
            go_wp2_with fail
            refine HP.out.mono ?_
            rintro e w3 ⟨v3, rfl, hr3, hb3⟩
            have HR3 : Hid (Rr w3 w.heap.size v3 (rowsD (a.take (j + 1)) b gone)) := hide2 (by rw [HTS.out]; exact hr3)
            have HB3 := hide2 (HB2.out.trans (hb3.mono HB2.out.size))
            obtain ⟨aq2, cq2, ev, _⟩ := hr3.seq
            subst ev
            clear hr3 hb3 HP HR2 HTS
            go_wp2_with fail
            go_roundw
            case rel => exact ⟨j + 1, by omega, by go_num, HR3, HB3⟩
            case measure => simp [intOf]; omega
        · have e1 : j = la := by omega
          subst e1
          have d1 : ¬ (j : Int) < (j : Int) := by omega
          have ec : a.take j = a := List.take_of_length_le (by omega)
          rw [ec] at HR
          go_wp2
          go_ret
          exact ⟨_, rfl, HR.out, HBW.out⟩
end
end Go.Proofs.YtffgmpgmflbekaaGreatDoor
