/-
  Keys: all keys, rising.
-/
import Derived.Test.YtbpihkojmbfccaaDoorHb5
import Derived.Sort.OwnSorted
import Derived.Sort.KeysCollected
set_option linter.unusedVariables false
set_option linter.unusedSimpArgs false
namespace Go.Proofs.YtbpihkojmbfccaaDoor
open Go.RowKit Go.Maps Go.Sort Go.Shelf

def kx (e : En) : List UInt8 := e.k.data.toList
theorem kx_enc (e : En) : encStr (kx e) = .string e.k := by
  unfold kx encStr
  cases e.k
  simp

/-- Which keys were met: those of the entries that are not left. -/
structure Met (L : List En) (D : DataW Value) (left : Lit → Bool) (ss : List (List UInt8)) : Prop where
  v0 : ∀ kl, left kl = true → Maps.has D kl = true
  v1 : ∀ e ∈ L, left (.int .i64 (e.c : Int)) = false → kx e ∈ ss
  v2 : ∀ x ∈ ss, ∃ e ∈ L, kx e = x ∧ left (.int .i64 (e.c : Int)) = false
  v3 : ss.Nodup
  v4 : ss.length ≤ L.length

theorem kx_inj {e f : En} (h : kx e = kx f) : e.k = f.k := by
  unfold kx at h
  have : e.k.data = f.k.data := by
    have := congrArg List.toArray h
    simpa using this
  cases he : e.k with
  | mk a => cases hf : f.k with
    | mk b => rw [he, hf] at this; simp at this; rw [this]

theorem nodup_le : ∀ (ss M : List (List UInt8)), ss.Nodup → (∀ x ∈ ss, x ∈ M) → ss.length ≤ M.length := by
  intro ss
  induction ss with
  | nil => intro M _ _; exact Nat.zero_le _
  | cons y ys ih =>
    intro M hn hs
    obtain ⟨n1, n2⟩ := List.nodup_cons.1 hn
    have hy := hs y (by simp)
    have := ih (M.erase y) n2 (fun x hx => (List.mem_erase_of_ne (fun q => n1 (by rw [← q]; exact hx))).2 (hs x (by simp [hx])))
    rw [List.length_erase_of_mem hy] at this
    have := List.length_pos_of_mem hy
    simp only [List.length_cons]
    omega

theorem Met.start {L : List En} {D : DataW Value} (h : Md D L) : Met L D (Maps.has D) [] :=
  ⟨fun _ h => h, fun e he hl => (by rw [h.has e he] at hl; cases hl), fun x hx => (by cases hx), by simp, Nat.zero_le _⟩

theorem Met.next {L : List En} {D : DataW Value} {left : Lit → Bool} {ss : List (List UInt8)} (h : Met L D left ss) (hL : (L.map En.c).Nodup) (hK : (L.map En.k).Nodup) {e : En} (he : e ∈ L) (hl : left (.int .i64 (e.c : Int)) = true) :
    Met L D (fun z => left z && !z.sameKey (.int .i64 (e.c : Int))) (ss ++ [kx e]) := by
  have hsame : ∀ f : En, (Lit.int .i64 (f.c : Int)).sameKey (.int .i64 (e.c : Int)) = decide (f.c = e.c) := fun f => by
    simp only [Lit.sameKey, true_and]
    by_cases q : f.c = e.c
    · rw [decide_eq_true (by omega), decide_eq_true q]
    · rw [decide_eq_false (by omega), decide_eq_false q]
  have hnew : kx e ∉ ss := fun hm => by
    obtain ⟨f, hf, e1, e2⟩ := h.v2 _ hm
    have : f = e := map_inj hK hf he (kx_inj e1)
    subst this
    rw [hl] at e2; cases e2
  have hnd : (ss ++ [kx e]).Nodup := by
    rw [List.nodup_append]
    exact ⟨h.v3, by simp, fun a ha b hb q => by simp at hb; subst hb; exact hnew (q ▸ ha)⟩
  have hv2 : ∀ x ∈ ss ++ [kx e], ∃ f ∈ L, kx f = x ∧ (left (.int .i64 (f.c : Int)) && !(Lit.int .i64 (f.c : Int)).sameKey (.int .i64 (e.c : Int))) = false := fun x hx => by
    rcases List.mem_append.1 hx with h1 | h1
    · obtain ⟨f, hf, e1, e2⟩ := h.v2 x h1
      exact ⟨f, hf, e1, by rw [e2]; rfl⟩
    · simp at h1
      exact ⟨e, he, h1.symm, by rw [hsame]; simp⟩
  refine ⟨fun kl hkl => h.v0 kl (by simp only [Bool.and_eq_true] at hkl; exact hkl.1), fun f hf hlf => ?_, hv2, hnd, ?_⟩
  · have hlf2 : (left (.int .i64 (f.c : Int)) && !decide (f.c = e.c)) = false := by rw [← hsame]; exact hlf
    by_cases q : f.c = e.c
    · have : f = e := map_inj hL hf he q
      subst this
      exact List.mem_append.2 (.inr (by simp))
    · rw [decide_eq_false q] at hlf2
      simp only [Bool.not_false, Bool.and_true] at hlf2
      exact List.mem_append.2 (.inl (h.v1 f hf hlf2))
  · -- as many as there are entries, at most
    have := nodup_le _ (L.map kx) hnd (fun x hx => by obtain ⟨f, hf, e1, -⟩ := hv2 x hx; exact List.mem_map.2 ⟨f, hf, e1⟩)
    simpa using this

theorem all_keys_nd {s : Tb} {bk : ByteArray → Nat} {T : List Bool} {N : List Int} {u : Nat} (h : s.inv bk T N u) : (s.all.map En.k).Nodup := by
  -- within a chain no key is twice; chains are told apart by buckets
  have hone := h.one
  have hkey := h.key
  have hlen := h.len
  have key : ∀ (ls : List (List En)) (off : Nat), (∀ i, i < ls.length → ((ls.getD i []).map En.k).Nodup) → (∀ i, i < ls.length → ∀ e ∈ ls.getD i [], bk e.k = off + i) → (ls.flatten.map En.k).Nodup := by
    intro ls
    induction ls with
    | nil => intro off _ _; simp
    | cons l ls ih =>
      intro off h1 h2
      rw [List.flatten_cons, List.map_append, List.nodup_append]
      refine ⟨by simpa [List.getD] using h1 0 (by simp), ih (off + 1) (fun i hi => by simpa [List.getD] using h1 (i + 1) (by simpa using hi)) (fun i hi e he => by
        have := h2 (i + 1) (by simpa using hi) e (by simpa [List.getD] using he)
        omega), fun a ha b hb q => ?_⟩
      obtain ⟨e, he, rfl⟩ := List.mem_map.1 ha
      obtain ⟨f, hf, rfl⟩ := List.mem_map.1 hb
      obtain ⟨m, hm, hfm⟩ := List.mem_flatten.1 hf
      obtain ⟨i, hi, rfl⟩ := List.getElem_of_mem hm
      have k1 := h2 0 (by simp) e (by simpa [List.getD] using he)
      have k2 := h2 (i + 1) (by simpa using hi) f (by simpa [List.getD, List.getElem?_eq_getElem hi] using hfm)
      rw [q] at k1
      omega
  exact key s.ch 0 (fun i hi => hone i (by omega)) (fun i hi e he => by have := (hkey i (by omega) e he).1; omega)

theorem all_cells_nd {s : Tb} {bk : ByteArray → Nat} {T : List Bool} {N : List Int} {u : Nat} (h : s.inv bk T N u) : (s.all.map En.c).Nodup := by
  have hn := h.nd
  unfold Tb.cells at hn
  exact (List.nodup_append.1 (List.nodup_append.1 hn).2.1).1

theorem infoS9 : (Tryd.prog.info? 9).map (fun i => (i.zero, i.size, i.bytes)) = some (some (.string .empty), 1, 16) := by kernel_rfl
theorem hstr_new (w : World) (x : Value) (t : TypeId) : ∀ j u, [x][j]? = some u → (w.alloc (.cells #[x] t)).cell? ((⟨w.heap.size, 0, none⟩ : Addr).add j) = some u := hcell_new w x t

section
variable {w : World} {K : Nat → Prop} {tb d z M : Nat} {s : Tb}
set_option maxRecDepth 100000 in
set_option maxHeartbeats 4000000 in
theorem HT.keys (h : HT w K tb d z M s) :
    Calls Tryd.prog 17 #[.pointer (some ⟨tb, 0, none⟩)] w fun e w' => ∃ (v : Value) (ts : List (List UInt8)), e = .returned v ∧ w'.ownsRow w.heap.size 9 1 v ts.length (ts.map encStr) ∧
      ts.Pairwise (fun x y => x ≤ y) ∧ ts.Nodup ∧ (∀ x, x ∈ ts ↔ ∃ e ∈ s.all, kx e = x) ∧ ts.length = s.all.length ∧ Below w.heap.size w w' := by
  obtain ⟨i0, hi0, z0, z1, z2⟩ := info_parts infoS9
  obtain ⟨g, hb, hc, mb, sv, D, T, N, m, F, hH, hV, hz, r⟩ := h
  have HN := hide2 (hH.isNone hV.n1.1)
  obtain ⟨c0, c1, c2, c3⟩ := hH.tk.cells
  have hown := hH.mp
  have HOWN := hide2 hown
  have HMD := hide2 hH.md
  have HCN := hide2 (all_cells_nd hV)
  have HKN := hide2 (all_keys_nd hV)
  have hal : s.all.length ≤ 65536 := by have := hV.all_le.1; have := hV.tl; have := hH.aw.one.2; omega
  have HKS : Hid (∀ e ∈ s.all, 1 ≤ e.k.size ∧ e.k.size ≤ 16) := hide2 (fun e he => by
    obtain ⟨b, hb, h1⟩ := all_at he
    exact (hV.key b (by rw [← hV.len]; exact hb) e h1).2)
  have hmbl := hown.lt
  clear hV hH r hown
  go_enter Tryd.func17, Tryd.ntmps17
  go_wp2_with fail
  refine HN.out.mono ?_
  rintro e w0 ⟨rfl, q0⟩
  subst q0
  go_wp2_with (first
    | (at_range; refine wpList_range_own _ rfl _ 70 rfl 3 76 cellKeyed Tryd.underlying70 RVh mb s.all.length D rfl HOWN.out ?_; intro w1 hrg1 hg1 hs1)
    | go_in)
  go_frame
  have HB1 : Hid (Below w0.heap.size w0 w1) := hide2 ((Below.refl _ _).grown hg1 (Nat.le_refl _) (fun j hj => by cases hj))
  clear HN c0 c1 c2 c3 hg1
  go_loopw [3, 5] (fun v _ wr => ∃ (left : Lit → Bool) (cnt : Nat) (ss : List (List UInt8)), wr.ranges Tryd.prog 3 RVh mb w0.heap.size s.all.length D left cnt ∧ Hid (Met s.all D left ss) ∧ Hid (wr.ownsRow (w0.heap.size + 1) 9 1 v ss.length (ss.map encStr)) ∧ Hid (Below w0.heap.size w0 wr) ∧ w0.heap.size + 1 ≤ wr.heap.size)
    (fun _ _ wr => wr.rangeLeft mb w0.heap.size)
  case atStart =>
    exact ⟨_, _, [], hrg1, hide2 (Met.start HMD.out), hide2 ⟨rfl, .inl ⟨rfl, rfl⟩⟩, HB1, by omega⟩
  case round =>
    obtain ⟨left, cnt, ss, hrg, ME, RW, BL, hsz⟩ := hrel
    go_wp2_with (first
      | (at_next; refine wpList_next_ranges (α := Int) (β := Value) _ rfl _ rfl 3 cellKeyed RVh (Value.int .i64) id (fun key kl hkey => by obtain ⟨x, rfl, _⟩ := Maps.keyOf_int_inv Tryd.underlying3 hkey; exact ⟨x, rfl⟩) (fun v y hv => ⟨v, rfl⟩) mb w0.heap.size s.all.length D left cnt rfl hrg ?_ ?_)
      | go_in)
    · intro hc0 hl0
      have hmem : ∀ x, x ∈ ss ↔ ∃ e ∈ s.all, kx e = x := fun x => ⟨fun hx => by obtain ⟨e, he, q, -⟩ := ME.out.v2 x hx; exact ⟨e, he, q⟩, fun ⟨e, he, q⟩ => q ▸ ME.out.v1 e he (hl0 _)⟩
      have hlen : ss.length = s.all.length := by
        have h1 := ME.out.v4
        have hsub : ∀ (A B : List (List UInt8)), A.Nodup → (∀ x ∈ A, x ∈ B) → A.length ≤ B.length := nodup_le
        have hnd : (s.all.map kx).Nodup := by
          have := HKN.out
          rw [List.nodup_iff_pairwise_ne, List.pairwise_map] at *
          exact this.imp (fun hne q => hne (kx_inj q))
        have h2 := hsub (s.all.map kx) ss hnd (fun x hx => by obtain ⟨e, he, q⟩ := List.mem_map.1 hx; exact (hmem x).2 ⟨e, he, q⟩)
        simp only [List.length_map] at h2
        omega
      have hpm : (ss.mergeSort (fun x y => decide (x ≤ y))).Perm ss := List.mergeSort_perm _ _
      have hsrt : (ss.mergeSort (fun x y => decide (x ≤ y))).Pairwise (fun x y => x ≤ y) := by
        have := List.pairwise_mergeSort (le := fun x y : List UInt8 => decide (x ≤ y)) (fun a b c h1 h2 => by simp only [decide_eq_true_eq] at *; exact List.le_trans h1 h2) (fun a b => by simp only [Bool.or_eq_true, decide_eq_true_eq]; exact List.le_total a b) ss
        exact this.imp (fun h => by simpa using h)
      have FIN : Hid (∀ (v : Value) (w' : World), w'.ownsRow w0.heap.size 9 1 v ss.length ((ss.mergeSort (fun x y => decide (x ≤ y))).map encStr) → Below w0.heap.size w0 w' →
          ∃ (v' : Value) (ts : List (List UInt8)), Ending.returned v = .returned v' ∧ w'.ownsRow w0.heap.size 9 1 v' ts.length (ts.map encStr) ∧ ts.Pairwise (fun x y => x ≤ y) ∧ ts.Nodup ∧ (∀ x, x ∈ ts ↔ ∃ e ∈ s.all, kx e = x) ∧ ts.length = s.all.length ∧ Below w0.heap.size w0 w') := hide2 (fun v w' h1 h2 =>
        ⟨v, ss.mergeSort (fun x y => decide (x ≤ y)), rfl, by rw [hpm.length_eq]; exact h1, hsrt, hpm.nodup_iff.2 ME.out.v3, fun x => (hpm.mem_iff).trans (hmem x), by rw [hpm.length_eq]; exact hlen, h2⟩)
      have hss : ss.length < 4611686018427387904 := by omega
      clear hmem hlen hpm hsrt
      rcases RW.out.2 with ⟨rfl, h0⟩ | ⟨gg, cap, cur, rfl, hgb, hh, hn, hm, hs, ht⟩
      · have e0 : ss = [] := List.eq_nil_of_length_eq_zero h0
        subst e0
        have HSN := hide2 (AnyM.slices_Sort_string_none sortL none 0 wr)
        have HSN2 : Hid (Calls Tryd.prog 29 #[.slice none 0 0] wr fun e w' => e = .returned (.tuple #[]) ∧ w' = wr) := hide2 HSN.out
        clear HSN
        go_wp2_with fail
        refine HSN2.out.mono ?_
        rintro e w5 ⟨rfl, q5⟩
        subst q5
        go_wp2
        go_ret
        exact FIN.out _ _ ⟨by simp, .inl ⟨rfl, rfl⟩⟩ BL.out
      · have hct := AnyM.slices_Sort_string sortL gg 0 cap ss wr (holds_of_block hh (by simpa using ht)) (Array.getElem?_eq_some_iff.1 hh).1 hss
        have HCT : Hid (Calls Tryd.prog 29 #[.slice (some ⟨gg, 0, none⟩) ss.length cap] wr fun e w' => e = .returned (.tuple #[]) ∧ ∃ n os, w' = grow (putRow encStr (Sort.ahead wr n) gg 0 (ss.mergeSort fun x y => decide (x ≤ y)).toArray) os) := hide2 hct
        have HROW : Hid (∀ n os, (grow (putRow encStr (Sort.ahead wr n) gg 0 (ss.mergeSort fun x y => decide (x ≤ y)).toArray) os).ownsRow w0.heap.size 9 1 (.slice (some ⟨gg, 0, none⟩) ss.length cap) ss.length ((ss.mergeSort (fun x y => decide (x ≤ y))).map encStr) ∧ Below w0.heap.size w0 (grow (putRow encStr (Sort.ahead wr n) gg 0 (ss.mergeSort fun x y => decide (x ≤ y)).toArray) os)) := hide2 (fun n os =>
          ⟨ownsRow_sorted (n := n) (os := os) (List.length_mergeSort ss) (by omega) hh hn hm hs, BL.out.grown (grownBy_sorted _) BL.out.size (fun j hj => by cases hj; omega)⟩)
        clear hct hh ht hs
        go_wp2_with fail
        refine HCT.out.mono ?_
        rintro e w5 ⟨rfl, n5, os5, q5⟩
        have hR5 := HROW.out n5 os5
        rw [← q5] at hR5
        clear q5 HCT HROW
        have HR5 := hide2 hR5
        clear hR5
        go_wp2
        go_ret
        exact FIN.out _ _ HR5.out.1 HR5.out.2
    · intro x c kl ya yb w2 cnt2 hkey hlk hR hat hrg2 hlt hg2 hs2 hen
      obtain ⟨e, hea, rfl⟩ := HMD.out.only kl (ME.out.v0 kl hlk)
      obtain ⟨x', ex, e2, -⟩ := Maps.keyOf_int_inv Tryd.underlying3 hkey
      have hx : x = (e.c : Int) := by
        cases ex
        simpa using e2.symm
      have hcv : c = .agg #[.string e.k, .int .i64 e.r] := by
        have h1 := hat (.held (.pointer none))
        rw [HMD.out.get e hea] at h1
        simp only [RVh, Option.some.injEq, Prod.mk.injEq] at hR
        rw [← hR.1] at h1
        cases h1
        rfl
      have ME2 := hide2 (ME.out.next HCN.out HKN.out hea hlk)
      obtain ⟨hk1, hk2⟩ := HKS.out e hea
      clear ex e2 hkey hat hR hlk
      subst hcv hx
      have hrow2 := World.ownsRow.kept RW.out hg2 (.inr (fun q => by have := (World.ownsRow.lt RW.out w0.heap.size q).1; omega))
      have bl2 : Below w0.heap.size w0 w2 := BL.out.grown hg2 BL.out.size (fun j hj => by cases hj; exact Nat.le_refl _)
      obtain ⟨w3, hw3⟩ : ∃ x, x = w2.alloc (.cells #[.string e.k, .int .i64 e.r] 76) := ⟨_, rfl⟩
      have hg3 : w2.grownBy w3 none := by rw [hw3]; exact World.grownBy_alloc w2 _ none
      have hs3 : w3.heap.size = w2.heap.size + 1 := by rw [hw3]; simp
      have hb3 : w3.heap[w2.heap.size]? = some (.cells #[.string e.k, .int .i64 e.r] 76 (0, 0)) := by rw [hw3]; exact heap_alloc_new w2 _
      have m0 : w3.cell? ⟨w2.heap.size, 0, none⟩ = some (.string e.k) := by rw [Go.Joins.cell_of_block hb3]; rfl
      have zz1 := heap_alloc_new w2 (.cells #[.string .empty, .int .i64 0] 76)
      have zz2 : (w2.alloc (.cells #[.string .empty, .int .i64 0] 76)).cell? ⟨w2.heap.size, 0, none⟩ = some (.string .empty) := by rw [Go.Joins.cell_of_block zz1]; rfl
      have zz3 : (w2.alloc (.cells #[.string .empty, .int .i64 0] 76)).cell? ⟨w2.heap.size, 1, none⟩ = some (.int .i64 0) := by rw [Go.Joins.cell_of_block zz1]; rfl
      have zz4 := Go.Joins.unfrozen_of_block zz1 0
      have zz5 := Go.Joins.unfrozen_of_block zz1 1
      have HCL := hide2 (clone_any e.k w3 hk1 (by omega))
      have hF3 : Fr (fun _ => False) w2 w3 := Fr.grown hg3 (fun j e => by cases e)
      have hrow3 := hrow_fr hrow2 hF3 (fun _ _ => id)
      have hrg3 := hrg2.kept hg3 (by simp) (by simp)
      have HR3 := hide2 hrow3
      have HG3 := hide2 hrg3
      have BL3 : Hid (Below w0.heap.size w0 w3) := hide2 (bl2.trans (hF3.to (fun _ _ => id) bl2.size))
      have hlt2 : w2.heap.size < w3.heap.size := by omega
      have hsz2 : w0.heap.size + 1 ≤ w2.heap.size := by omega
      have hsz3 : w0.heap.size + 1 ≤ w3.heap.size := by omega
      have HLEFT := hide2 hrg.left_eq
      have HLT := hide2 hlt
      clear hrow2 hrow3 hrg2 hrg3 hg2 hg3 hb3 zz1 bl2 hF3 hs3 hrg hlt
      go_wp2_with fail
      rw [← hw3]
      clear hw3 zz2 zz3 zz4 zz5 hen
      refine HCL.out.mono ?_
      rintro e' w4 ⟨rfl, hb4⟩
      have hF4 : Fr (fun _ => False) w3 w4 := Fr.below hb4
      have HR4 := hide2 (hrow_fr HR3.out hF4 (fun _ _ => id))
      have HG4 := hide2 (HG3.out.kept (w' := w4) (row := none) ⟨hb4.os, hb4.tape, hb4.output, hb4.size, fun k hk _ => hb4.block k hk⟩ (by simp) (by simp))
      have BL4 : Hid (Below w0.heap.size w0 w4) := hide2 (BL3.out.trans (hF4.to (fun _ _ => id) BL3.out.size))
      have hs4 := hb4.size
      have HNEW := hide2 (hcell_new w4 (.string e.k) 9)
      obtain ⟨ao, cap, ev⟩ : ∃ ao cap, u3 = .slice ao ss.length cap := by
        rcases HR4.out.2 with ⟨q, h0⟩ | ⟨g9, c9, cur9, q, -⟩
        · exact ⟨none, 0, by rw [q, h0]⟩
        · exact ⟨_, c9, q⟩
      clear HCL hb4 m0 HR3 HG3 BL3 hF4
      subst ev
      have hss4 : ss.length ≤ 65536 := by have := ME.out.v4; omega
      go_wp2_with (at_builtin; refine Hid.out ?_)
      refine hide2 ?_
      refine wpList_append_own_at _ rfl _ _ 40 rfl (w0.heap.size + 1) 9 i0 (.string .empty) 1 16 Tryd.underlying40 hi0 z0 z1 z2 rfl (by decide) (.slice ao ss.length cap) _ _ rfl (World.ownsRow.alloc HR4.out _) ⟨w4.heap.size, 0, none⟩ 1 1 [.string e.k] rfl rfl HNEW.out (by simp [Value.oneCell']) (by unfold maxLen; omega) (by omega) (by simp; omega) ?_
      intro v' w6 hown6 hgrow6 hat6 hb6
      obtain ⟨gt, capt, ev⟩ := hrow_succ hown6
      have hR5 := HG4.out.alloc (.cells #[.string e.k] 9)
      have hR6 := hR5.kept hgrow6 (fun q => by
        have h1 := (World.ownsRow.lt HR4.out mb q.symm).1
        have h2 := hmbl
        omega) (fun q => by
        have h1 := (World.ownsRow.lt HR4.out w0.heap.size q.symm).1
        omega)
      have hb5 : Below w0.heap.size w0 (w4.alloc (.cells #[.string e.k] 9)) := BL4.out.alloc (by omega) _
      have BL6 : Hid (Below w0.heap.size w0 w6) := hide2 (hb5.grown hgrow6 hb5.size (fun j hj => by have := (World.ownsRow.lt HR4.out j hj).1; omega))
      have HR6 : Hid (w6.ownsRow (w0.heap.size + 1) 9 1 v' (ss ++ [kx e]).length ((ss ++ [kx e]).map encStr)) := hide2 (by
        rw [List.length_append, List.length_singleton, List.map_append, List.map_singleton, kx_enc]
        exact hown6)
      have hs6 := hgrow6.size
      simp only [World.size_alloc] at hs6
      have HG6 := hide2 hR6
      have hsz6 : w0.heap.size + 1 ≤ w6.heap.size := by omega
      clear hR5 hR6 hown6 hgrow6 hat6 hb6 hb5 HNEW HR4 BL4 HG4
      subst ev
      go_frame
      go_wp2
      go_roundw
      case rel => exact ⟨_, cnt2, ss ++ [kx e], HG6.out, ME2, HR6, BL6, hsz6⟩
      case measure => rw [HG6.out.left_eq, HLEFT.out]; exact HLT.out
end
end Go.Proofs.YtbpihkojmbfccaaDoor
