/-
  The law's together.
-/
import Derived.Test.YtbpihkojmbfccaaDoorHd5
import Derived.Deep.RegionHeld3
set_option linter.unusedVariables false
set_option linter.unusedSimpArgs false
namespace Go.Proofs.YtbpihkojmbfccaaDoor
open Go.RowKit Go.Maps Go.Sort

theorem mk4 (u : World) : (Instr.makeSlice 43 (.int .i64 4) (.int .i64 4)).run Tryd.prog u = .ok (.slice (some ⟨u.heap.size, 0, none⟩) 4 4) (u.alloc (.cells #[.int .i64 0, .int .i64 0, .int .i64 0, .int .i64 0] 3)) := by kernel_rfl
theorem infoUn : (Tryd.prog.info? 48).map (fun i => (i.zero, i.size, i.bytes)) = some (some (.agg #[.int .i64 0, .bool false, .string .empty, .int .i64 0, .pointer none, .int .i64 0, .int .i64 0]), 7, 64) := by kernel_rfl

theorem step_append_eq9 {P : Program} {ops : Array Oper} {o : Oper} {a : Act} {w : World} {K : Act → World → Prop} {Q : Exit → Act → World → Prop} {E : Prop}
    (hg : o.guard = none) (s x : Operand) (t : TypeId) (hop : o.op = Op.call { callee := Callee.builtin Builtin.append, args := #[s, x], argTypes := #[t, t] })
    (v u v' : Value) (w' : World) (hs : a.eval s = v) (hx : a.eval x = u) (hrun : ∀ ty, (Builtin.append_ #[t, t] ty #[v, u]).run P w = .ok v' w') (hK : K (a.put o.dst v') w') :
    if Region.wanted o (yielded ops a.tmps) = true then Oper.wp P o a w K Q else E := by
  have hw : Region.wanted o (yielded ops a.tmps) = true := by simp [Region.wanted, hg]
  rw [if_pos hw]
  unfold Oper.wp
  simp [execOp, hop, resolve, invoke, builtin, hs, hx, hrun o.type, Result.andThen]
  exact hK
/-- An append of what was just laid, as an equation. -/
theorem run_append_eq9 {P : Program} (w : World) (base : Nat) (t e : TypeId) (i : TypeInfo) (z : Value) (size bytes : Nat) (ht : P.underlying t = some (.slice e)) (hi : P.info? e = some i) (hz : i.zero = some z) (hsize : i.size = size) (hby : i.bytes = bytes) (hzs : z.cells.size = size) (hsz : 0 < size)
    (v : Value) (n : Nat) (xs : List Value) (hown : w.ownsRow base e size v n xs) (news : List Value) (hl : news.length = 1 * size) (h1 : ∀ u ∈ news, u.oneCell' = true) (h63 : n + 1 ≤ maxLen) (hbytes : (n + 1) * bytes ≤ 140737488355328) (hbase : base ≤ w.heap.size) :
    ∃ v' w', (∀ ty, (Builtin.append_ #[t, t] ty #[v, .slice (some ⟨w.heap.size, 0, none⟩) 1 1]).run P (w.alloc (.cells news.toArray e)) = .ok v' w') ∧ w'.ownsRow base e size v' (n + 1) (xs ++ news) ∧ (w.alloc (.cells news.toArray e)).grownBy w' v.ownBlock ∧ (v' = .slice none 0 0 ↔ v = .slice none 0 0 ∧ 1 = 0) ∧ (v'.ownBlock = v.ownBlock ∨ v'.ownBlock = some (w.heap.size + 1)) := by
  have hn : ∀ j u, news[j]? = some u → (w.alloc (.cells news.toArray e)).cell? ((⟨w.heap.size, 0, none⟩ : Addr).add j) = some u := by
    intro j u h
    have hb : (w.alloc (.cells news.toArray e)).heap[w.heap.size]? = some (.cells news.toArray e (0, 0)) := heap_alloc_new w _
    rw [addr_add, Go.Joins.cell_of_block hb, ← Array.getElem?_toList]
    simpa using h
  obtain ⟨v', w', hr, h2, h3, h4, h5⟩ := run_append_own_at (P := P) (w.alloc (.cells news.toArray e)) base t t e i z size bytes ht hi hz hsize hby hzs hsz v n xs (World.ownsRow.alloc hown _) ⟨w.heap.size, 0, none⟩ 1 1 news hl hn h1 h63 hbytes (by simp; omega)
  exact ⟨v', w', fun ty => hr, h2, h3, h4, by simpa using h5⟩

/-- What a cell holds, as a number. -/
def cnat (w : World) (b i : Nat) : Nat :=
  match w.cell? ⟨b, i, none⟩ with
  | some (.int _ x) => x.toNat
  | _ => 0
theorem cnat_of {w : World} {b i k : Nat} (h : w.cell? ⟨b, i, none⟩ = some (.int .i64 (k : Int))) : cnat w b i = k := by
  unfold cnat; rw [h]; rfl
/-- Whose turn a number tells. -/
theorem wkr_of (x : Int) : ∃ r : Int, x.tmod 4 = r ∧ -4 < r ∧ r < 4 ∧ (r + 4).tmod 4 = (wkr x : Int) := by
  have h1 := Int.tmod_lt_of_pos x (b := 4) (by decide)
  have h2 : -4 < x.tmod 4 := by have := Int.lt_tmod_of_pos x (b := 4) (by decide); omega
  refine ⟨_, rfl, h2, h1, ?_⟩
  unfold wkr
  have h3 : 0 ≤ (x.tmod 4 + 4).tmod 4 := Int.tmod_nonneg 4 (by omega)
  omega
theorem tmod_nat (t : Nat) : (t : Int).tmod 4 = ((t % 4 : Nat) : Int) := Int.ofNat_tmod t 4

section
variable {w w0 : World} {tb d nbk : Nat} {K : Nat → Prop}
theorem map4 {α : Type} {l : List α} (h : l.length = 4) {q : Nat} (hq : q < 4) (f : α → Value) (z : α) : (l.map f)[q]? = some (f (l.getD q z)) := by
  rw [List.getElem?_map, List.getElem?_eq_getElem (by omega)]
  simp [List.getD, List.getElem?_eq_getElem (show q < l.length by omega)]
theorem Tm.at_cell {wr : World} {M : Nat} {s : Tb} {l : List Un} {v : Value} {ab nb : Nat} {at4 : List Nat} {now4 : List (Option Nat)} (h : Tm w wr tb d M K s l v ab nb at4 now4) {q : Nat} (hq : q < 4) : wr.cell? ⟨ab, q, none⟩ = some (.int .i64 ((at4.getD q 0 : Nat) : Int)) := by
  rw [h.atb.cell q, map4 h.la.1 hq nv 0]; rfl
theorem Tm.now_cell {wr : World} {M : Nat} {s : Tb} {l : List Un} {v : Value} {ab nb : Nat} {at4 : List Nat} {now4 : List (Option Nat)} (h : Tm w wr tb d M K s l v ab nb at4 now4) {q : Nat} (hq : q < 4) : wr.cell? ⟨nb, q, none⟩ = some (ov (now4.getD q none)) := by
  rw [h.nowb.cell q, map4 h.la.2 hq ov none]
theorem tm_start (h : HT w0 K tb d 400 0 (s0 nbk)) (hK : ∀ j, K j → w.heap.size ≤ j) (hb : Below w.heap.size w w0) (h0 : 0 < w.heap.size) :
    Tm w ((w0.alloc (.cells #[.int .i64 0, .int .i64 0, .int .i64 0, .int .i64 0] 3)).alloc (.cells #[.int .i64 0, .int .i64 0, .int .i64 0, .int .i64 0] 3)) tb d 0 K (s0 nbk) [] (.slice none 0 0) w0.heap.size (w0.heap.size + 1) (List.replicate 4 0) (List.replicate 4 (some 0)) := by
  obtain ⟨w1, hw1⟩ : ∃ x, x = w0.alloc (.cells #[.int .i64 0, .int .i64 0, .int .i64 0, .int .i64 0] 3) := ⟨_, rfl⟩
  have s1 : w1.heap.size = w0.heap.size + 1 := by rw [hw1]; simp
  have hb1 : Below w0.heap.size w0 w1 := by rw [hw1]; exact (Below.refl _ _).alloc (Nat.le_refl _) _
  have hb2 : Below w1.heap.size w1 (w1.alloc (.cells #[.int .i64 0, .int .i64 0, .int .i64 0, .int .i64 0] 3)) := (Below.refl _ _).alloc (Nat.le_refl _) _
  have n1 : w1.heap[w0.heap.size]? = some (.cells #[.int .i64 0, .int .i64 0, .int .i64 0, .int .i64 0] 3 (0, 0)) := by rw [hw1]; exact heap_alloc_new w0 _
  have n2 := heap_alloc_new w1 (.cells #[.int .i64 0, .int .i64 0, .int .i64 0, .int .i64 0] 3)
  have hkl := h.kl
  have hs := hb.size
  rw [← hw1]
  rw [s1] at n2
  refine ⟨(h.mono hb1).mono hb2, ⟨rfl, .inl ⟨rfl, rfl⟩⟩, fun u hu => (by cases hu), by simp, hK, fun u hu => (by cases hu), fun j e => (by cases e), (hb2.block _ (by omega)).trans n1, n2, ⟨rfl, rfl⟩, ⟨fun e => by have := hkl _ e; omega, fun e => by have := hkl _ e; omega, by omega, by omega, by omega⟩, ?_, h0⟩
  exact (hb.trans ⟨hb1.os, hb1.tape, hb1.output, hb1.size, fun j hj => hb1.block j (by omega)⟩).trans ⟨hb2.os, hb2.tape, hb2.output, hb2.size, fun j hj => hb2.block j (by omega)⟩

theorem now_step (k : Nat) (h : k < 4) : (List.replicate k (none : Option Nat) ++ List.replicate (4 - k) (some 0)).set k none = List.replicate (k + 1) none ++ List.replicate (4 - (k + 1)) (some 0) := by
  rcases (show k = 0 ∨ k = 1 ∨ k = 2 ∨ k = 3 by omega) with e | e | e | e <;> (subst e; rfl)

theorem tl_start {wr : World} {v : Value} {ab nb P : Nat} {xs : List AskR} (h : Tm w wr tb d 0 K (s0 nbk) [] v ab nb (List.replicate 4 0) (List.replicate 4 none)) : Tl w wr tb d xs P 0 K (s0 nbk) [] v ab nb (List.replicate 4 0) (List.replicate 4 none) := by
  have e1 : ∀ q, (List.replicate 4 (none : Option Nat)).getD q none = none := fun q => by
    simp only [List.getD, List.getElem?_replicate]; split <;> rfl
  have e2 : ∀ q, (List.replicate 4 (0 : Nat)).getD q 0 = 0 := fun q => by
    simp only [List.getD, List.getElem?_replicate]; split <;> rfl
  refine ⟨h, ?_, fun q _ => by rw [e2]; exact Nat.zero_le _, ?_, MuOk.start (fun q hq => ?_)⟩
  · have : (fun q => (List.replicate 4 (none : Option Nat)).getD q none) = fun _ => none := by funext q; exact e1 q
    rw [this]; exact Ti.start nbk
  · rw [e2, e2, e2, e2]; have := rem_all xs; simpa using this
  · unfold mu
    rw [e1, e2]
    have := rem_le xs 0 q
    show rem xs 0 q * (4 * xs.length + 6) + 0 ≤ _
    exact Nat.mul_le_mul this (by omega)

set_option maxRecDepth 100000 in
set_option maxHeartbeats 8000000 in
theorem together_any {ao po : Option Addr} {n cap P pcap : Nat} {xs : List AskR} {ps : List Int} (h : HT w0 K tb d 400 0 (s0 nbk)) (hK : ∀ j, K j → w.heap.size ≤ j) (hb : Below w.heap.size w w0) (h0 : 0 < w.heap.size)
    (hs : Seq 4 AskR.cells w ao n cap xs) (hok : ∀ x ∈ xs, x.ok) (hn : n ≤ 60) (hp : Seq 1 ih w po P pcap ps) (hP : P ≤ 10000) :
    Calls Tryd.prog 18 #[.pointer (some ⟨tb, 0, none⟩), .slice ao n cap, .slice po P pcap] w0 fun e w' => ∃ K' s l v ab nb at4 now4, e = .returned (.tuple #[v, .bool true]) ∧ s.hd.length = nbk ∧ Tl w w' tb d xs P (P + 4 * (xs.length * (8 * xs.length + 20))) K' s l v ab nb at4 now4 := by
  have HTM := hide2 (tm_start h hK hb h0)
  have hm4 := mk4
  have hcap := hs.2.1
  have hmax := hs.2.2.1
  have hpcap := hp.2.1
  have hpmax := hp.2.2.1
  unfold maxLen at hmax hpmax
  have HSQ := hide2 hs
  have HPQ := hide2 hp
  have HOK := hide2 hok
  have HXL : Hid (xs.length = n) := hide2 hs.1
  clear h hb hs hok hp
  go_enter Tryd.func18, Tryd.ntmps18
  go_wp2
  go_loopw [11] (fun i wr => ∃ k : Nat, k ≤ 4 ∧ i = .int .i64 k ∧ Hid (Tm w wr tb d 0 K (s0 nbk) [] (.slice none 0 0) w0.heap.size (w0.heap.size + 1) (List.replicate 4 0) (List.replicate k none ++ List.replicate (4 - k) (some 0)))) (fun i _ => 4 - (intOf i).toNat)
  case atStart => exact ⟨0, by omega, rfl, HTM⟩
  case round =>
    obtain ⟨k, hk, rfl, T1⟩ := hrel
    by_cases hk4 : k < 4
    · have hki : (k : Int) < 4 := by omega
      have f1 : wr.frozen? ⟨w0.heap.size + 1, k, none⟩ = false := Go.Joins.unfrozen_of_block T1.out.nowb k
      obtain ⟨cv, hcv⟩ : ∃ cv, wr.cell? ⟨w0.heap.size + 1, k, none⟩ = some cv := by
        rw [T1.out.nowb.cell k]
        have : k < ((List.replicate k (none : Option Nat) ++ List.replicate (4 - k) (some 0)).map ov).length := by simp; omega
        exact ⟨_, List.getElem?_eq_getElem this⟩
      have hset := T1.out.setNow k none
      rw [now_step k hk4] at hset
      have HSET := hide2 hset
      clear hset
      go_wp2
      go_round
      case rel => exact ⟨k + 1, by omega, by go_num, HSET⟩
      case measure => simp [intOf]; omega
    · have hk5 : ¬ (k : Int) < 4 := by omega
      have HTL := hide2 (tl_start (P := P) (xs := xs) (by
        have e4 : k = 4 := by omega
        have := T1.out
        rw [e4] at this
        exact this))
      obtain ⟨Tn, hTn⟩ : ∃ Tn : Nat, Tn = 4 * (n * (8 * n + 20)) := ⟨_, rfl⟩
      have hTb : Tn ≤ 120000 := by
        rw [hTn]
        have : n * (8 * n + 20) ≤ 60 * 500 := Nat.mul_le_mul hn (by omega)
        omega
      have hTi : (4 : Int) * (n : Int) * (8 * (n : Int) + 20) = (Tn : Int) := by
        rw [hTn, Int.mul_assoc]
        simp
      have HTN := hide2 hTn
      clear hTn T1
      obtain ⟨ab, hab⟩ : ∃ y, y = w0.heap.size := ⟨_, rfl⟩
      obtain ⟨nb, hnb⟩ : ∃ y, y = w0.heap.size + 1 := ⟨_, rfl⟩
      go_wp2
      rw [← hnb, ← hab]
      rw [← hnb, ← hab] at HTL
      clear hab hnb
      go_loopw [8, 13] (fun v i wr => ∃ (t : Nat) (K : Nat → Prop) (s : Tb) (l : List Un) (at4 : List Nat) (now4 : List (Option Nat)), t ≤ P + Tn ∧ i = .int .i64 t ∧ Hid (s.hd.length = nbk) ∧ Hid (Tl w wr tb d xs P t K s l v ab nb at4 now4)) (fun _ i _ => P + Tn - (intOf i).toNat)
      case atStart => exact ⟨0, K, s0 nbk, [], _, _, by omega, rfl, hide2 (by simp [s0]), HTL⟩
      case round =>
        obtain ⟨t, K, s, l, at4, now4, ht, rfl, HD0, L⟩ := hrel
        clear HTL HTM hK
        by_cases htl : t < P + Tn
        · have d1 : (t : Int) < (P : Int) + (Tn : Int) := by omega
          have htm := tmod_nat t
          obtain ⟨qm, hqm⟩ : ∃ q : Nat, q = t % 4 := ⟨_, rfl⟩
          rw [← hqm] at htm
          have hqm4 : qm < 4 := by omega
          by_cases htP : t < P
          · have d2 : (t : Int) < (P : Int) := by omega
            obtain ⟨pb, poff, rfl, hpbl, hpcell⟩ := HPQ.out.2.2.2 (by omega)
            obtain ⟨pv, hpv⟩ := some_at HPQ.out.1 htP
            have p0 : wr.cell? ⟨pb, poff + t, none⟩ = some (.int .i64 pv) := (L.out.tm.bl.cell (p := ⟨pb, poff + t, none⟩) hpbl).trans (by have := hpcell t pv hpv 0 _ rfl; simpa using this)
            obtain ⟨r1, hr1, hr2, hr3, hr4⟩ := wkr_of pv
            obtain ⟨q, hq⟩ : ∃ q, q = wkr pv := ⟨_, rfl⟩
            rw [← hq] at hr4
            have hq4 : q < 4 := by rw [hq]; exact wkr_lt pv
            have HQP : Hid (P ≤ t → q = t % 4) := hide2 (fun e => by omega)
            clear hpcell hpv hq hqm
            have hvf : ∃ vo vc, u8 = .slice vo l.length vc := by
              rcases L.out.tm.row.2 with ⟨e, h0⟩ | ⟨g9, c9, cur9, e, -⟩
              · exact ⟨none, 0, by rw [e, h0]⟩
              · exact ⟨_, c9, e⟩
            obtain ⟨vo, vc, ev⟩ := hvf
            subst ev
            have cnow := L.out.tm.now_cell hq4
            have hq4i : (q : Int) < 4 := by omega
            cases hnow : now4.getD q none with
            | none =>
              rw [hnow] at cnow
              have cnow2 : wr.cell? ⟨nb, q, none⟩ = some (.int .i64 (-1)) := cnow
              have HNOW := hide2 hnow
              clear cnow hnow
              go_wp2
              obtain ⟨wQ, hwQ⟩ : ∃ y, y = wr := ⟨_, rfl⟩
              subst hwQ
              go_loopw [86] (fun _ wr => ∃ at5 : List Nat, Hid (Tl w wr tb d xs P t K s l (.slice vo l.length vc) ab nb at5 now4)) (fun _ wr => n - cnat wr ab q)
              case atStart => exact ⟨at4, L⟩
              case round =>
                obtain ⟨at5, L5⟩ := hrel
                clear L cnow2
                have cat := L5.out.tm.at_cell hq4
                have hkl := L5.out.al q hq4
                have fat := Go.Joins.unfrozen_of_block L5.out.tm.atb q
                have fnow := Go.Joins.unfrozen_of_block L5.out.tm.nowb q
                have cnow3 : wr.cell? ⟨nb, q, none⟩ = some (.int .i64 (-1)) := by
                  have := L5.out.tm.now_cell hq4
                  rw [HNOW.out] at this
                  exact this
                have HCN := hide2 (cnat_of cat)
                obtain ⟨k, hk⟩ : ∃ k, k = at5.getD q 0 := ⟨_, rfl⟩
                rw [← hk] at cat hkl HCN
                rw [HXL.out] at hkl
                by_cases hkn : k < n
                · have hkni : (k : Int) < (n : Int) := by omega
                  obtain ⟨xb, xoff, exo, hxbl, hxcell⟩ := HSQ.out.2.2.2 (by omega)
                  obtain ⟨x, hx⟩ := some_at HSQ.out.1 hkn
                  have hxok := HOK.out x (List.mem_of_getElem? hx)
                  have hcb := fun p (hp : p.block < w.heap.size) => L5.out.tm.bl.cell (p := p) hp
                  have y2 : wr.cell? ⟨xb, xoff + k * 4, none⟩ = some (.int .i64 x.w) := (hcb _ hxbl).trans (by have := hxcell k x hx 0 _ rfl; simpa using this)
                  have y3 : wr.cell? ⟨xb, xoff + k * 4 + 1, none⟩ = some (.bool x.look) := (hcb _ hxbl).trans (hxcell k x hx 1 _ rfl)
                  have y4 : wr.cell? ⟨xb, xoff + k * 4 + 2, none⟩ = some (.string x.key) := (hcb _ hxbl).trans (hxcell k x hx 2 _ rfl)
                  have y5 : wr.cell? ⟨xb, xoff + k * 4 + 3, none⟩ = some (.int .i64 x.ref) := (hcb _ hxbl).trans (hxcell k x hx 3 _ rfl)
                  subst exo
                  obtain ⟨r5, hr51, hr52, hr53, hr54⟩ := wkr_of x.w
                  have HX : Hid (xs[at5.getD q 0]? = some x) := hide2 (by rw [← hk]; exact hx)
                  have HK := hide2 hk
                  clear hxcell hcb hx hk
                  by_cases hw : wkr x.w = q
                  · have hw2 : (r5 + 4).tmod 4 = (q : Int) := by rw [hr54, hw]
                    have hkne : ¬ (k : Int) = (n : Int) := by omega
                    have hkne2 : ((k : Int) == (n : Int)) = false := by simp; omega
                    have HW := hide2 hw
                    clear hw hr54
                    have TA0 := L5.out.tm.setNow q (some l.length)
                    obtain ⟨wA, hwA⟩ : ∃ y, y = wr.setCell ⟨nb, q, none⟩ (.int .i64 (l.length : Int)) := ⟨_, rfl⟩
                    have TA : Tm w wA tb d t K s l (.slice vo l.length vc) ab nb at5 (now4.set q (some l.length)) := by rw [hwA]; exact TA0
                    have y1 : wA.cell? ⟨ab, q, none⟩ = some (.int .i64 (k : Int)) := by rw [HK.out]; exact TA.at_cell hq4
                    have hcbA := fun p (hp : p.block < w.heap.size) => (TA.bl.cell (p := p) hp).trans (L5.out.tm.bl.cell (p := p) hp).symm
                    have y2A := (hcbA _ hxbl).trans y2
                    have y3A := (hcbA _ hxbl).trans y3
                    have y4A := (hcbA _ hxbl).trans y4
                    have y5A := (hcbA _ hxbl).trans y5
                    have hTD := TA.below (w' := wA.drew) (⟨rfl, rfl, rfl, Nat.le_refl _, fun _ _ => rfl⟩)
                    have HBG : Hid (Calls Tryd.prog 11 #[.pointer (some ⟨tb, 0, none⟩), .agg #[.int .i64 x.w, .bool x.look, .string x.key, .int .i64 x.ref]] wA.drew fun e w' => e = .returned (.pointer (some ⟨wA.heap.size + 1, 0, none⟩)) ∧ Om w' (wA.heap.size + 1) (tp tb) (opB s x.key (!x.look) (if x.look = true then 0 else x.ref)) ∧ Below wA.heap.size wA.drew w') := hide2 (hTD.ht.begun x hxok.2.1)
                    have abl : ab < wA.heap.size := (Array.getElem?_eq_some_iff.1 TA.atb).1
                    have hwA1 : w.heap.size ≤ wA.heap.size := TA.bl.size
                    have xbl : xb < wA.heap.size := by have : xb < w.heap.size := hxbl; omega
                    have hvA := TA.vb
                    have hvl : ∀ j, (Value.slice vo l.length vc).ownBlock = some j → w.heap.size ≤ j ∧ j < wA.heap.size := fun j e => World.ownsRow.lt TA.row j e
                    have hvx : (Value.slice vo l.length vc).ownBlock ≠ some xb := fun e => by have := (hvl xb e).1; have : xb < w.heap.size := hxbl; omega
                    obtain ⟨i0, hi0, z0, z1, z2⟩ := info_parts infoUn
                    have hll : l.length ≤ 60 := by have := L5.out.cnt; have := HXL.out; omega
                    have HAP : Hid (∀ w2 : World, Below wA.heap.size wA.drew w2 → ∃ v4 w4, (∀ ty, (Builtin.append_ #[44, 44] ty #[.slice vo l.length vc, .slice (some ⟨w2.heap.size, 0, none⟩) 1 1]).run Tryd.prog (w2.alloc (.cells #[.int .i64 x.w, .bool x.look, .string x.key, .int .i64 x.ref, .pointer (some ⟨wA.heap.size + 1, 0, none⟩), .int .i64 (t : Int), .int .i64 (-1)] 48)) = .ok v4 w4) ∧ w4.ownsRow w.heap.size 48 7 v4 (l.length + 1) (l.flatMap Un.cells ++ [.int .i64 x.w, .bool x.look, .string x.key, .int .i64 x.ref, .pointer (some ⟨wA.heap.size + 1, 0, none⟩), .int .i64 (t : Int), .int .i64 (-1)]) ∧ (w2.alloc (.cells #[.int .i64 x.w, .bool x.look, .string x.key, .int .i64 x.ref, .pointer (some ⟨wA.heap.size + 1, 0, none⟩), .int .i64 (t : Int), .int .i64 (-1)] 48)).grownBy w4 (Value.slice vo l.length vc).ownBlock ∧ (v4.ownBlock = (Value.slice vo l.length vc).ownBlock ∨ v4.ownBlock = some (w2.heap.size + 1))) := hide2 (fun w2 hb2 => by
                      have hrow2 := hrow_fr TA.row (w' := w2) (G := fun _ => False) ⟨hb2.os, hb2.tape, hb2.output, hb2.size, fun j hj _ => hb2.block j hj⟩ (fun _ _ => id)
                      have hs2 := hb2.size
                      obtain ⟨v4, w4, a1, a2, a3, a4, a5⟩ := run_append_eq9 (P := Tryd.prog) w2 w.heap.size 44 48 i0 _ 7 64 Tryd.underlying44 hi0 z0 z1 z2 rfl (by decide) (.slice vo l.length vc) l.length _ hrow2 [.int .i64 x.w, .bool x.look, .string x.key, .int .i64 x.ref, .pointer (some ⟨wA.heap.size + 1, 0, none⟩), .int .i64 (t : Int), .int .i64 (-1)] rfl (by intro u hu; simp at hu; rcases hu with rfl | rfl | rfl | rfl | rfl | rfl | rfl <;> rfl) (by unfold maxLen; omega) (by omega) (by have h9 : wA.heap.size ≤ w2.heap.size := hs2; omega)
                      exact ⟨v4, w4, a1, a2, a3, a5⟩)
                    have HTA := hide2 TA
                    have HSA : Hid (wA.heap.size = wr.heap.size) := hide2 (by rw [hwA]; simp [World.setCell])
                    clear TA TA0 hcbA hTD
                    go_wp2
                    rw [← hwA]
                    clear hwA y2 y3 y4 y5 cat fat fnow cnow3
                    have y2 := y2A
                    have y3 := y3A
                    have y4 := y4A
                    have y5 := y5A
                    clear y2A y3A y4A y5A
                    refine wp_region_noPanic ?_
                    refine wp_region_held_drew (S := (fun u : World => u.cell? ⟨ab, q, none⟩ = some (.int .i64 (k : Int)) ∧ u.cell? ⟨xb, xoff + k * 4, none⟩ = some (.int .i64 x.w) ∧ u.cell? ⟨xb, xoff + k * 4 + 1, none⟩ = some (.bool x.look) ∧ u.cell? ⟨xb, xoff + k * 4 + 2, none⟩ = some (.string x.key) ∧ u.cell? ⟨xb, xoff + k * 4 + 3, none⟩ = some (.int .i64 x.ref))) (by kernel_rfl) (⟨y1, y2, y3, y4, y5⟩) (fun hHeld => ?_)
                    refine wpAnyH_take (i := 0) (oi := { dst := some 100, op := _, type := _, pos := _, after := _, guard := _ }) (v := ?_) rfl (by kernel_rfl) (by kernel_rfl) (by kernel_rfl) (fun _ _ _ h => h) (Or.inl ⟨by rfl, ?_⟩) (by assumption) ?_
                    rotate_left 1
                    · intro u hSw; obtain ⟨s1, s2, s3, s4, s5⟩ := hSw; go_simp; try with_reducible rfl
                    try simp only [Act.put, List.setIfInBounds_toArray, List.set_cons_zero, List.set_cons_succ]
                    refine wpAnyH_take (i := 1) (oi := { dst := some 101, op := _, type := _, pos := _, after := _, guard := _ }) (v := ?_) rfl (by kernel_rfl) (by kernel_rfl) (by kernel_rfl) (fun _ _ _ h => h) (Or.inl ⟨by rfl, ?_⟩) (by assumption) ?_
                    rotate_left 1
                    · intro u hSw; obtain ⟨s1, s2, s3, s4, s5⟩ := hSw; go_simp; try with_reducible rfl
                    try simp only [Act.put, List.setIfInBounds_toArray, List.set_cons_zero, List.set_cons_succ]
                    refine wpAnyH_take (i := 2) (oi := { dst := some 102, op := _, type := _, pos := _, after := _, guard := _ }) (v := ?_) rfl (by kernel_rfl) (by kernel_rfl) (by kernel_rfl) (fun _ _ _ h => h) (Or.inl ⟨by rfl, ?_⟩) (by assumption) ?_
                    rotate_left 1
                    · intro u hSw; obtain ⟨s1, s2, s3, s4, s5⟩ := hSw; go_simp; try with_reducible rfl
                    try simp only [Act.put, List.setIfInBounds_toArray, List.set_cons_zero, List.set_cons_succ]
                    refine wpAnyH_take (i := 3) (oi := { dst := some 103, op := _, type := _, pos := _, after := _, guard := _ }) (v := ?_) rfl (by kernel_rfl) (by kernel_rfl) (by kernel_rfl) (fun _ _ _ h => h) (Or.inl ⟨by rfl, ?_⟩) (by assumption) ?_
                    rotate_left 1
                    · intro u hSw; obtain ⟨s1, s2, s3, s4, s5⟩ := hSw; go_simp; try with_reducible rfl
                    try simp only [Act.put, List.setIfInBounds_toArray, List.set_cons_zero, List.set_cons_succ]
                    refine wpAnyH_take (i := 4) (oi := { dst := some 104, op := _, type := _, pos := _, after := _, guard := _ }) (v := ?_) rfl (by kernel_rfl) (by kernel_rfl) (by kernel_rfl) (fun _ _ _ h => h) (Or.inl ⟨by rfl, ?_⟩) (by assumption) ?_
                    rotate_left 1
                    · intro u hSw; obtain ⟨s1, s2, s3, s4, s5⟩ := hSw; go_simp; try with_reducible rfl
                    try simp only [Act.put, List.setIfInBounds_toArray, List.set_cons_zero, List.set_cons_succ]
                    refine wpAnyH_take (i := 5) (oi := { dst := some 105, op := _, type := _, pos := _, after := _, guard := _ }) (v := ?_) rfl (by kernel_rfl) (by kernel_rfl) (by kernel_rfl) (fun _ _ _ h => h) (Or.inl ⟨by rfl, ?_⟩) (by assumption) ?_
                    rotate_left 1
                    · intro u hSw; obtain ⟨s1, s2, s3, s4, s5⟩ := hSw; go_simp; try with_reducible rfl
                    try simp only [Act.put, List.setIfInBounds_toArray, List.set_cons_zero, List.set_cons_succ]
                    refine wpAnyH_take (i := 6) (oi := { dst := some 106, op := _, type := _, pos := _, after := _, guard := _ }) (v := ?_) rfl (by kernel_rfl) (by kernel_rfl) (by kernel_rfl) (fun _ _ _ h => h) (Or.inl ⟨by rfl, ?_⟩) (by assumption) ?_
                    rotate_left 1
                    · intro u hSw; obtain ⟨s1, s2, s3, s4, s5⟩ := hSw; go_simp; try with_reducible rfl
                    try simp only [Act.put, List.setIfInBounds_toArray, List.set_cons_zero, List.set_cons_succ]
                    refine wpAnyH_take (i := 7) (oi := { dst := some 107, op := _, type := _, pos := _, after := _, guard := _ }) (v := ?_) rfl (by kernel_rfl) (by kernel_rfl) (by kernel_rfl) (fun _ _ _ h => h) (Or.inl ⟨by rfl, ?_⟩) (by assumption) ?_
                    rotate_left 1
                    · intro u hSw; obtain ⟨s1, s2, s3, s4, s5⟩ := hSw; go_simp; try with_reducible rfl
                    try simp only [Act.put, List.setIfInBounds_toArray, List.set_cons_zero, List.set_cons_succ]
                    refine wpAnyH_take (i := 8) (oi := { dst := some 108, op := _, type := _, pos := _, after := _, guard := _ }) (v := ?_) rfl (by kernel_rfl) (by kernel_rfl) (by kernel_rfl) (fun _ _ _ h => h) (Or.inl ⟨by rfl, ?_⟩) (by assumption) ?_
                    rotate_left 1
                    · intro u hSw; obtain ⟨s1, s2, s3, s4, s5⟩ := hSw; go_simp; try with_reducible rfl
                    try simp only [Act.put, List.setIfInBounds_toArray, List.set_cons_zero, List.set_cons_succ]
                    refine wpAnyH_take (i := 9) (oi := { dst := some 109, op := _, type := _, pos := _, after := _, guard := _ }) (v := ?_) rfl (by kernel_rfl) (by kernel_rfl) (by kernel_rfl) (fun _ _ _ h => h) (Or.inl ⟨by rfl, ?_⟩) (by assumption) ?_
                    rotate_left 1
                    · intro u hSw; obtain ⟨s1, s2, s3, s4, s5⟩ := hSw; go_simp; try with_reducible rfl
                    try simp only [Act.put, List.setIfInBounds_toArray, List.set_cons_zero, List.set_cons_succ]
                    refine wpAnyH_take (i := 10) (oi := { dst := some 110, op := _, type := _, pos := _, after := _, guard := _ }) (v := ?_) rfl (by kernel_rfl) (by kernel_rfl) (by kernel_rfl) (fun _ _ _ h => h) (Or.inl ⟨by rfl, ?_⟩) (by assumption) ?_
                    rotate_left 1
                    · intro u hSw; obtain ⟨s1, s2, s3, s4, s5⟩ := hSw; go_simp; try with_reducible rfl
                    try simp only [Act.put, List.setIfInBounds_toArray, List.set_cons_zero, List.set_cons_succ]
                    refine wpAnyH_take (i := 11) (oi := { dst := some 111, op := _, type := _, pos := _, after := _, guard := _ }) (v := ?_) rfl (by kernel_rfl) (by kernel_rfl) (by kernel_rfl) (fun _ _ _ h => h) (Or.inl ⟨by rfl, ?_⟩) (by assumption) ?_
                    rotate_left 1
                    · intro u hSw; obtain ⟨s1, s2, s3, s4, s5⟩ := hSw; go_simp; try with_reducible rfl
                    try simp only [Act.put, List.setIfInBounds_toArray, List.set_cons_zero, List.set_cons_succ]
                    refine wpAnyH_take (i := 12) (oi := { dst := some 112, op := _, type := _, pos := _, after := _, guard := _ }) (v := ?_) rfl (by kernel_rfl) (by kernel_rfl) (by kernel_rfl) (fun _ _ _ h => h) (Or.inl ⟨by rfl, ?_⟩) (by assumption) ?_
                    rotate_left 1
                    · intro u hSw; obtain ⟨s1, s2, s3, s4, s5⟩ := hSw; go_simp; try with_reducible rfl
                    try simp only [Act.put, List.setIfInBounds_toArray, List.set_cons_zero, List.set_cons_succ]
                    refine wpAnyH_take (i := 13) (oi := { dst := some 113, op := _, type := _, pos := _, after := _, guard := _ }) (v := ?_) rfl (by kernel_rfl) (by kernel_rfl) (by kernel_rfl) (fun _ _ _ h => h) (Or.inl ⟨by rfl, ?_⟩) (by assumption) ?_
                    rotate_left 1
                    · intro u hSw; obtain ⟨s1, s2, s3, s4, s5⟩ := hSw; go_simp; try with_reducible rfl
                    try simp only [Act.put, List.setIfInBounds_toArray, List.set_cons_zero, List.set_cons_succ]
                    refine wpAnyH_take (i := 14) (oi := { dst := some 114, op := _, type := _, pos := _, after := _, guard := _ }) (v := ?_) rfl (by kernel_rfl) (by kernel_rfl) (by kernel_rfl) (fun _ _ _ h => h) (Or.inl ⟨by rfl, ?_⟩) (by assumption) ?_
                    rotate_left 1
                    · intro u hSw; obtain ⟨s1, s2, s3, s4, s5⟩ := hSw; go_simp; try with_reducible rfl
                    try simp only [Act.put, List.setIfInBounds_toArray, List.set_cons_zero, List.set_cons_succ]
                    refine wpAnyH_take (i := 15) (oi := { dst := some 115, op := _, type := _, pos := _, after := _, guard := _ }) (v := ?_) rfl (by kernel_rfl) (by kernel_rfl) (by kernel_rfl) (fun _ _ _ h => h) (Or.inl ⟨by rfl, ?_⟩) (by assumption) ?_
                    rotate_left 1
                    · intro u hSw; obtain ⟨s1, s2, s3, s4, s5⟩ := hSw; go_simp; try with_reducible rfl
                    try simp only [Act.put, List.setIfInBounds_toArray, List.set_cons_zero, List.set_cons_succ]
                    refine wpAnyH_take (i := 17) (oi := { dst := some 117, op := _, type := _, pos := _, after := _, guard := _ }) (v := ?_) rfl (by kernel_rfl) (by kernel_rfl) (by kernel_rfl) (fun _ _ _ h => h) (Or.inl ⟨by rfl, ?_⟩) (by assumption) ?_
                    rotate_left 1
                    · intro u hSw; obtain ⟨s1, s2, s3, s4, s5⟩ := hSw; go_simp; try with_reducible rfl
                    try simp only [Act.put, List.setIfInBounds_toArray, List.set_cons_zero, List.set_cons_succ]
                    refine wpAnyH_ready (rs := [16]) (by kernel_rfl) (by simp) ?_
                    refine AllReadyH.cons (o := { dst := some 116, op := _, type := _, pos := _, after := _, guard := _ }) rfl (fun K hK => ?_) AllReadyH.nil
                    go_simp
                    refine HBG.out.mono ?_
                    rintro e w2 ⟨rfl, ho2, hb2⟩
                    have z1 := (hb2.cell (p := ⟨ab, q, none⟩) abl).trans y1
                    have z2 := (hb2.cell (p := ⟨xb, xoff + k * 4, none⟩) xbl).trans y2
                    have z3 := (hb2.cell (p := ⟨xb, xoff + k * 4 + 1, none⟩) xbl).trans y3
                    have z4 := (hb2.cell (p := ⟨xb, xoff + k * 4 + 2, none⟩) xbl).trans y4
                    have z5 := (hb2.cell (p := ⟨xb, xoff + k * 4 + 3, none⟩) xbl).trans y5
                    have HO2 := hide2 ho2
                    have HB2 := hide2 hb2
                    have hsz2 : wA.heap.size ≤ w2.heap.size := hb2.size
                    clear ho2 hb2
                    go_wp2_with fail
                    refine hK.out _ _ (⟨z1, z2, z3, z4, z5⟩) (fun hHeld => ?_)
                    clear hK K
                    try simp only [Act.put, List.setIfInBounds_toArray, List.set_cons_zero, List.set_cons_succ]
                    refine wpAnyH_take (i := 18) (oi := { dst := some 118, op := _, type := _, pos := _, after := _, guard := _ }) (v := ?_) rfl (by kernel_rfl) (by kernel_rfl) (by kernel_rfl) (fun _ _ _ h => h) (Or.inl ⟨by rfl, ?_⟩) (by assumption) ?_
                    rotate_left 1
                    · intro u hSw; obtain ⟨s1, s2, s3, s4, s5⟩ := hSw; go_simp; try with_reducible rfl
                    try simp only [Act.put, List.setIfInBounds_toArray, List.set_cons_zero, List.set_cons_succ]
                    refine wpAnyH_ready (rs := [19]) (by kernel_rfl) (by simp) ?_
                    refine AllReadyH.cons (o := { dst := some 119, op := _, type := _, pos := _, after := _, guard := _ }) rfl (fun K hK => ?_) AllReadyH.nil
                    go_simp
                    have hbA : Below w2.heap.size w2 (w2.alloc (.cells #[.int .i64 x.w, .bool x.look, .string x.key, .int .i64 x.ref, .pointer (some ⟨wA.heap.size + 1, 0, none⟩), .int .i64 (t : Int), .int .i64 (-1)] 48)) := (Below.refl _ _).alloc (Nat.le_refl _) _
                    have a1 := (hbA.cell (p := ⟨ab, q, none⟩) (by show ab < w2.heap.size; omega)).trans z1
                    have a2 := (hbA.cell (p := ⟨xb, xoff + k * 4, none⟩) (by show xb < w2.heap.size; omega)).trans z2
                    have a3 := (hbA.cell (p := ⟨xb, xoff + k * 4 + 1, none⟩) (by show xb < w2.heap.size; omega)).trans z3
                    have a4 := (hbA.cell (p := ⟨xb, xoff + k * 4 + 2, none⟩) (by show xb < w2.heap.size; omega)).trans z4
                    have a5 := (hbA.cell (p := ⟨xb, xoff + k * 4 + 3, none⟩) (by show xb < w2.heap.size; omega)).trans z5
                    refine hK.out _ _ (⟨a1, a2, a3, a4, a5⟩) (fun hHeld => ?_)
                    clear hK K
                    try simp only [Act.put, List.setIfInBounds_toArray, List.set_cons_zero, List.set_cons_succ]
                    obtain ⟨v4, w4, hap, hown4, hgrow4, hb4⟩ := HAP.out w2 HB2.out
                    refine wpAnyH_ready (rs := [20]) (by kernel_rfl) (by simp) ?_
                    refine AllReadyH.cons (o := { dst := some 120, op := _, type := _, pos := _, after := _, guard := _ }) rfl (fun K hK => ?_) AllReadyH.nil
                    refine step_append_eq9 rfl _ _ _ rfl _ _ v4 w4 rfl rfl hap ?_
                    have c1 : w4.cell? ⟨ab, q, none⟩ = some (.int .i64 (k : Int)) := (World.cell?_of_block (hgrow4.block ab (by simp; omega) (fun e => hvA.1 e.symm))).trans a1
                    have c2 : w4.cell? ⟨xb, xoff + k * 4, none⟩ = some (.int .i64 x.w) := (World.cell?_of_block (hgrow4.block xb (by simp; omega) (fun e => hvx e.symm))).trans a2
                    have c3 : w4.cell? ⟨xb, xoff + k * 4 + 1, none⟩ = some (.bool x.look) := (World.cell?_of_block (hgrow4.block xb (by simp; omega) (fun e => hvx e.symm))).trans a3
                    have c4 : w4.cell? ⟨xb, xoff + k * 4 + 2, none⟩ = some (.string x.key) := (World.cell?_of_block (hgrow4.block xb (by simp; omega) (fun e => hvx e.symm))).trans a4
                    have c5 : w4.cell? ⟨xb, xoff + k * 4 + 3, none⟩ = some (.int .i64 x.ref) := (World.cell?_of_block (hgrow4.block xb (by simp; omega) (fun e => hvx e.symm))).trans a5
                    refine hK.out _ _ (⟨c1, c2, c3, c4, c5⟩) (fun hHeld => ?_)
                    clear hK K
                    try simp only [Act.put, List.setIfInBounds_toArray, List.set_cons_zero, List.set_cons_succ]
                    refine wpAnyH_take (i := 21) (oi := { dst := some 8, op := _, type := _, pos := _, after := _, guard := _ }) (v := ?_) rfl (by kernel_rfl) (by kernel_rfl) (by kernel_rfl) (fun _ _ _ h => h) (Or.inl ⟨by rfl, ?_⟩) (by assumption) ?_
                    rotate_left 1
                    · intro u hSw; obtain ⟨s1, s2, s3, s4, s5⟩ := hSw; go_simp; try with_reducible rfl
                    try simp only [Act.put, List.setIfInBounds_toArray, List.set_cons_zero, List.set_cons_succ]
                    refine wpAnyH_done (by kernel_rfl) ?_ _
                    refine NoPanic.normal ?_
                    have hFB : Below wA.heap.size wA w2 := ⟨HB2.out.os, HB2.out.tape, HB2.out.output, HB2.out.size, HB2.out.block⟩
                    have T4 := HTA.out.pushed (u := ⟨x, opB s x.key (!x.look) (if x.look = true then 0 else x.ref), wA.heap.size + 1, t, none⟩) hFB HO2.out (Nat.le_succ _) (((Fr.refl (fun j => (Value.slice vo l.length vc).ownBlock = some j) w2).alloc _).trans (Fr.grown hgrow4 (fun j e => e)) (fun j e => .inl e)) hown4 (fun j e => by
                      rcases hb4 with q9 | q9
                      · exact .inl (by rw [← q9]; exact e)
                      · right
                        rw [q9] at e
                        have : w2.heap.size + 1 = j := Option.some.inj e
                        omega)
                    have c1 := T4.at_cell hq4
                    rw [← HK.out] at c1
                    have f1 := Go.Joins.unfrozen_of_block T4.atb q
                    have TB := T4.setAt q (k + 1)
                    have ek : at5.set q (k + 1) = at5.set q (at5.getD q 0 + 1) := by rw [HK.out]
                    rw [ek] at TB
                    have HLB := hide2 (L5.out.begun hq4 HQP.out HNOW.out HX.out HW.out TB)
                    have abl4 := (Array.getElem?_eq_some_iff.1 T4.atb).1
                    obtain ⟨gt, capt, ev4⟩ := hrow_succ hown4
                    clear hown4 hgrow4 hb4 hap T4 TB hFB HO2 HB2 HAP HTA HBG
                    subst ev4
                    go_wp2
                    go_roundw
                    case rel => exact ⟨t + 1, K, s, _, _, _, by omega, by go_num, HD0, HLB⟩
                    case measure => simp [intOf]; omega

                  · have hpast := L5.out.past hq4 HX.out hw
                    rw [← HK.out] at hpast
                    have HPA := hide2 hpast
                    have hwne : ¬ ((wkr x.w : Nat) : Int) = (q : Int) := by omega
                    have hwne2 : (((wkr x.w : Nat) : Int) != (q : Int)) = true := by simp; omega
                    have HCN2 : Hid (cnat (wr.setCell ⟨ab, q, none⟩ (.int .i64 ((k + 1 : Nat) : Int))) ab q = k + 1) := hide2 (by
                      have hla := L5.out.tm.la.1
                      have := hpast.tm.at_cell hq4
                      rw [getD4 hla hq4, if_pos rfl] at this
                      exact cnat_of this)
                    generalize hwv : wkr x.w = wv at hr54 hwne hwne2
                    clear hpast hwv hw
                    go_wp2
                    go_roundw
                    case rel => exact ⟨_, HPA⟩
                    case measure =>
                      have h9 := HCN2.out
                      rw [show ((k + 1 : Nat) : Int) = (k : Int) + 1 by omega] at h9
                      rw [HCN.out, h9]
                      omega
                · obtain rfl : k = n := by omega
                  have hr0 : rem xs (at5.getD q 0) q = 0 := by rw [← hk, ← HXL.out]; exact rem_end xs q
                  have HID := hide2 (L5.out.idle hq4 HQP.out HNOW.out hr0)
                  clear hr0 hk HCN
                  go_wp2
                  go_roundw
                  case rel => exact ⟨t + 1, K, s, l, at5, now4, by omega, by go_num, HD0, HID⟩
                  case measure => simp [intOf]; omega
            | some j =>
              rw [hnow] at cnow
              have cnow2 : wr.cell? ⟨nb, q, none⟩ = some (.int .i64 (j : Int)) := cnow
              obtain ⟨u, hu, hf, hwk⟩ := L.out.ti.nw q j hnow
              have hum := List.mem_of_getElem? hu
              have hjl : j < l.length := (List.getElem?_eq_some_iff.1 hu).1
              obtain ⟨g, cap9, ev9⟩ : ∃ g cap9, Value.slice vo l.length vc = .slice (some ⟨g, 0, none⟩) l.length cap9 := by
                rcases L.out.tm.row.2 with ⟨e, e0⟩ | ⟨g9, c9, cur9, e, -⟩
                · omega
                · exact ⟨g9, c9, e⟩
              simp only [Value.slice.injEq, true_and] at ev9
              obtain ⟨rfl, rfl⟩ := ev9
              have hrowc : ∀ i, i < 7 → wr.cell? ⟨g, j * 7 + i, none⟩ = u.cells[i]? := fun i hi => by
                rw [World.ownsRow.cellAt L.out.tm.row (j * 7 + i) (by omega), flat7 l j i u hu hi]
              have cp : wr.cell? ⟨g, j * 7 + 4, none⟩ = some (.pointer (some ⟨u.b, 0, none⟩)) := hrowc 4 (by decide)
              have hji : (j : Int) < (l.length : Int) := by omega
              have hj0 : ¬ (j : Int) < 0 := by omega
              have hui := L.out.ti.one u hum
              obtain ⟨fc1, fc2, fc3, fc4, fc5⟩ := L.out.facts (by rw [HXL.out]; exact hn)
              have hou := L.out.tm.ops u hum
              have hko := L.out.tm.ko u hum
              have hul : u.b < wr.heap.size := hou.lt
              -- the step, whatever the key is
              have hstep : Calls Tryd.prog 25 #[.pointer (some ⟨u.b, 0, none⟩)] wr fun e w' => ∃ s' o' K', e = .returned (.bool (decide (o'.st = 3))) ∧ ((good u.x.key = true ∧ Stp 400 s u.o s' o') ∨ (good u.x.key = false ∧ s' = s ∧ o' = u.o.ans 0 false 90)) ∧ Tm w w' tb d (t + 1) K' s' (l.set j { u with o := o' }) (.slice (some ⟨g, 0, none⟩) l.length vc) ab nb at4 now4 := by
                cases hg : good u.x.key with
                | true =>
                  have hr := hui.run hf hg
                  refine (L.out.tm.ht.step hou hko.1 hr.oi hr.st (fun e => ?_) (fun _ e => by omega) (by omega)).mono ?_
                  · unfold Opm.spare
                    cases hc : u.o.cell with
                    | none => exact absurd hc (hr.two e).1
                    | some c => simpa using hr.cell c hc
                  · rintro e w' ⟨s', o', K', rfl, h1, h2, h3, h4, h5⟩
                    exact ⟨s', o', K', rfl, .inl ⟨rfl, h1⟩, L.out.tm.went hu h2 h3 h4 h5⟩
                | false =>
                  obtain ⟨g2, hb9, hc9, mb9, sv9, D9, T9, N9, m9, F9, hH9, hV9, r9⟩ := L.out.tm.ht
                  have hnr := hui.nrun hf hg
                  refine (step_bad hH9.tk hV9.n1.1 hou hnr.1 hnr.2.1).mono ?_
                  rintro e w' ⟨rfl, h1, h2⟩
                  have hF : Fr (fun j => K j ∨ j = u.b) wr w' := h2.mono (fun _ _ e => .inr e)
                  exact ⟨s, _, K, rfl, .inr ⟨rfl, rfl, rfl⟩, L.out.tm.went hu ((L.out.tm.ht.keep h2 (fun j hj e => hko.1 (e ▸ hj)) (fun e => by have := hko.2; omega)).up (Nat.le_succ _)) h1 (fun _ _ => Iff.rfl) hF⟩
              have HST := hide2 hstep
              have HNOW := hide2 hnow
              have HL := hide2 L.out
              have HU := hide2 hu
              have HF := hide2 hf
              clear hstep cnow hnow hrowc hui hou hko L hum hu hf fc1 fc2 fc3 fc4 fc5 hwk
              go_wp2_with fail
              refine HST.out.mono ?_
              rintro e w1 ⟨s', o', K', rfl, hst, hT⟩
              clear HST
              have HD1 : Hid (s'.hd.length = nbk) := hide2 (by
                rcases hst with ⟨_, q9⟩ | ⟨_, q9, _⟩
                · rw [q9.hd]; exact HD0.out
                · rw [q9]; exact HD0.out)
              by_cases h3 : o'.st = 3
              · have hd : decide (o'.st = 3) = true := decide_eq_true h3
                have cn1 : w1.cell? ⟨nb, q, none⟩ = some (.int .i64 (j : Int)) := by
                  have := hT.now_cell hq4
                  rw [HNOW.out] at this
                  exact this
                have fr6 : w1.frozen? ⟨g, j * 7 + 6, none⟩ = false := World.ownsRow.frozenAt (by have := hT.row; rw [List.length_set] at this; exact this) (j * 7 + 6)
                have cr6 : w1.cell? ⟨g, j * 7 + 6, none⟩ = some (.int .i64 (-1)) := by
                  have hrw := hT.row
                  rw [List.length_set] at hrw
                  rw [World.ownsRow.cellAt hrw (j * 7 + 6) (by omega), flat7 _ j 6 { u with o := o' } (set_new HU.out) (by decide)]
                  show some (Value.int .i64 (finI u.fin)) = _
                  rw [HF.out]; rfl
                have hE := hT.ended (by rw [List.length_set]) (set_new HU.out) (some t)
                have hE2 := hE.setNow q none
                have cn2 : (w1.setCell ⟨g, j * 7 + 6, none⟩ (.int .i64 (t : Int))).cell? ⟨nb, q, none⟩ = some (.int .i64 (j : Int)) := by
                  have := hE.now_cell hq4
                  rw [HNOW.out] at this
                  exact this
                have fn2 : (w1.setCell ⟨g, j * 7 + 6, none⟩ (.int .i64 (t : Int))).frozen? ⟨nb, q, none⟩ = false := Go.Joins.unfrozen_of_block hE.nowb q
                have el : (l.set j { u with o := o' }).set j { ({ u with o := o' } : Un) with fin := some t } = l.set j (u.went o' t) := by
                  rw [List.set_set]
                  unfold Un.went
                  rw [if_pos h3]
                rw [el] at hE2
                have HLS := hide2 (HL.out.stepped (by rw [HXL.out]; exact hn) hq4 HQP.out HNOW.out HU.out hE2 (fun q2 => by
                  rw [getD4 HL.out.tm.la.2 hq4]
                  by_cases e2 : q2 = q
                  · rw [if_pos e2, if_pos ⟨e2, h3⟩]
                  · rw [if_neg e2, if_neg (fun c => e2 c.1)]) hst)
                clear hE hE2 el hT hst HL h3
                go_wp2
                go_roundw
                case rel => exact ⟨t + 1, K', s', _, _, _, by omega, by go_num, HD1, HLS⟩
                case measure => simp [intOf]; omega
              · have hd : decide (o'.st = 3) = false := decide_eq_false h3
                have el : l.set j { u with o := o' } = l.set j (u.went o' t) := by
                  unfold Un.went
                  rw [if_neg h3, ← HF.out]
                rw [el] at hT
                have HLS := hide2 (HL.out.stepped (by rw [HXL.out]; exact hn) hq4 HQP.out HNOW.out HU.out hT (fun q2 => by rw [if_neg (fun c => h3 c.2)]) hst)
                clear el hT hst HL h3
                go_wp2
                go_roundw
                case rel => exact ⟨t + 1, K', s', _, _, _, by omega, by go_num, HD1, HLS⟩
                case measure => simp [intOf]; omega


          · have d2 : ¬ (t : Int) < (P : Int) := by omega
            obtain ⟨q, hq⟩ : ∃ q, q = qm := ⟨_, rfl⟩
            have hq4 : q < 4 := by omega
            have HQP : Hid (P ≤ t → q = t % 4) := hide2 (fun _ => by rw [hq]; exact hqm)
            rw [← hq] at htm
            clear hqm hq hqm4
            have hvf : ∃ vo vc, u8 = .slice vo l.length vc := by
              rcases L.out.tm.row.2 with ⟨e, h0⟩ | ⟨g9, c9, cur9, e, -⟩
              · exact ⟨none, 0, by rw [e, h0]⟩
              · exact ⟨_, c9, e⟩
            obtain ⟨vo, vc, ev⟩ := hvf
            subst ev
            have cnow := L.out.tm.now_cell hq4
            have hq4i : (q : Int) < 4 := by omega
            cases hnow : now4.getD q none with
            | none =>
              rw [hnow] at cnow
              have cnow2 : wr.cell? ⟨nb, q, none⟩ = some (.int .i64 (-1)) := cnow
              have HNOW := hide2 hnow
              clear cnow hnow
              go_wp2
              obtain ⟨wQ, hwQ⟩ : ∃ y, y = wr := ⟨_, rfl⟩
              subst hwQ
              go_loopw [86] (fun _ wr => ∃ at5 : List Nat, Hid (Tl w wr tb d xs P t K s l (.slice vo l.length vc) ab nb at5 now4)) (fun _ wr => n - cnat wr ab q)
              case atStart => exact ⟨at4, L⟩
              case round =>
                obtain ⟨at5, L5⟩ := hrel
                clear L cnow2
                have cat := L5.out.tm.at_cell hq4
                have hkl := L5.out.al q hq4
                have fat := Go.Joins.unfrozen_of_block L5.out.tm.atb q
                have fnow := Go.Joins.unfrozen_of_block L5.out.tm.nowb q
                have cnow3 : wr.cell? ⟨nb, q, none⟩ = some (.int .i64 (-1)) := by
                  have := L5.out.tm.now_cell hq4
                  rw [HNOW.out] at this
                  exact this
                have HCN := hide2 (cnat_of cat)
                obtain ⟨k, hk⟩ : ∃ k, k = at5.getD q 0 := ⟨_, rfl⟩
                rw [← hk] at cat hkl HCN
                rw [HXL.out] at hkl
                by_cases hkn : k < n
                · have hkni : (k : Int) < (n : Int) := by omega
                  obtain ⟨xb, xoff, exo, hxbl, hxcell⟩ := HSQ.out.2.2.2 (by omega)
                  obtain ⟨x, hx⟩ := some_at HSQ.out.1 hkn
                  have hxok := HOK.out x (List.mem_of_getElem? hx)
                  have hcb := fun p (hp : p.block < w.heap.size) => L5.out.tm.bl.cell (p := p) hp
                  have y2 : wr.cell? ⟨xb, xoff + k * 4, none⟩ = some (.int .i64 x.w) := (hcb _ hxbl).trans (by have := hxcell k x hx 0 _ rfl; simpa using this)
                  have y3 : wr.cell? ⟨xb, xoff + k * 4 + 1, none⟩ = some (.bool x.look) := (hcb _ hxbl).trans (hxcell k x hx 1 _ rfl)
                  have y4 : wr.cell? ⟨xb, xoff + k * 4 + 2, none⟩ = some (.string x.key) := (hcb _ hxbl).trans (hxcell k x hx 2 _ rfl)
                  have y5 : wr.cell? ⟨xb, xoff + k * 4 + 3, none⟩ = some (.int .i64 x.ref) := (hcb _ hxbl).trans (hxcell k x hx 3 _ rfl)
                  subst exo
                  obtain ⟨r5, hr51, hr52, hr53, hr54⟩ := wkr_of x.w
                  have HX : Hid (xs[at5.getD q 0]? = some x) := hide2 (by rw [← hk]; exact hx)
                  have HK := hide2 hk
                  clear hxcell hcb hx hk
                  by_cases hw : wkr x.w = q
                  · have hw2 : (r5 + 4).tmod 4 = (q : Int) := by rw [hr54, hw]
                    have hkne : ¬ (k : Int) = (n : Int) := by omega
                    have hkne2 : ((k : Int) == (n : Int)) = false := by simp; omega
                    have HW := hide2 hw
                    clear hw hr54
                    have TA0 := L5.out.tm.setNow q (some l.length)
                    obtain ⟨wA, hwA⟩ : ∃ y, y = wr.setCell ⟨nb, q, none⟩ (.int .i64 (l.length : Int)) := ⟨_, rfl⟩
                    have TA : Tm w wA tb d t K s l (.slice vo l.length vc) ab nb at5 (now4.set q (some l.length)) := by rw [hwA]; exact TA0
                    have y1 : wA.cell? ⟨ab, q, none⟩ = some (.int .i64 (k : Int)) := by rw [HK.out]; exact TA.at_cell hq4
                    have hcbA := fun p (hp : p.block < w.heap.size) => (TA.bl.cell (p := p) hp).trans (L5.out.tm.bl.cell (p := p) hp).symm
                    have y2A := (hcbA _ hxbl).trans y2
                    have y3A := (hcbA _ hxbl).trans y3
                    have y4A := (hcbA _ hxbl).trans y4
                    have y5A := (hcbA _ hxbl).trans y5
                    have hTD := TA.below (w' := wA.drew) (⟨rfl, rfl, rfl, Nat.le_refl _, fun _ _ => rfl⟩)
                    have HBG : Hid (Calls Tryd.prog 11 #[.pointer (some ⟨tb, 0, none⟩), .agg #[.int .i64 x.w, .bool x.look, .string x.key, .int .i64 x.ref]] wA.drew fun e w' => e = .returned (.pointer (some ⟨wA.heap.size + 1, 0, none⟩)) ∧ Om w' (wA.heap.size + 1) (tp tb) (opB s x.key (!x.look) (if x.look = true then 0 else x.ref)) ∧ Below wA.heap.size wA.drew w') := hide2 (hTD.ht.begun x hxok.2.1)
                    have abl : ab < wA.heap.size := (Array.getElem?_eq_some_iff.1 TA.atb).1
                    have hwA1 : w.heap.size ≤ wA.heap.size := TA.bl.size
                    have xbl : xb < wA.heap.size := by have : xb < w.heap.size := hxbl; omega
                    have hvA := TA.vb
                    have hvl : ∀ j, (Value.slice vo l.length vc).ownBlock = some j → w.heap.size ≤ j ∧ j < wA.heap.size := fun j e => World.ownsRow.lt TA.row j e
                    have hvx : (Value.slice vo l.length vc).ownBlock ≠ some xb := fun e => by have := (hvl xb e).1; have : xb < w.heap.size := hxbl; omega
                    obtain ⟨i0, hi0, z0, z1, z2⟩ := info_parts infoUn
                    have hll : l.length ≤ 60 := by have := L5.out.cnt; have := HXL.out; omega
                    have HAP : Hid (∀ w2 : World, Below wA.heap.size wA.drew w2 → ∃ v4 w4, (∀ ty, (Builtin.append_ #[44, 44] ty #[.slice vo l.length vc, .slice (some ⟨w2.heap.size, 0, none⟩) 1 1]).run Tryd.prog (w2.alloc (.cells #[.int .i64 x.w, .bool x.look, .string x.key, .int .i64 x.ref, .pointer (some ⟨wA.heap.size + 1, 0, none⟩), .int .i64 (t : Int), .int .i64 (-1)] 48)) = .ok v4 w4) ∧ w4.ownsRow w.heap.size 48 7 v4 (l.length + 1) (l.flatMap Un.cells ++ [.int .i64 x.w, .bool x.look, .string x.key, .int .i64 x.ref, .pointer (some ⟨wA.heap.size + 1, 0, none⟩), .int .i64 (t : Int), .int .i64 (-1)]) ∧ (w2.alloc (.cells #[.int .i64 x.w, .bool x.look, .string x.key, .int .i64 x.ref, .pointer (some ⟨wA.heap.size + 1, 0, none⟩), .int .i64 (t : Int), .int .i64 (-1)] 48)).grownBy w4 (Value.slice vo l.length vc).ownBlock ∧ (v4.ownBlock = (Value.slice vo l.length vc).ownBlock ∨ v4.ownBlock = some (w2.heap.size + 1))) := hide2 (fun w2 hb2 => by
                      have hrow2 := hrow_fr TA.row (w' := w2) (G := fun _ => False) ⟨hb2.os, hb2.tape, hb2.output, hb2.size, fun j hj _ => hb2.block j hj⟩ (fun _ _ => id)
                      have hs2 := hb2.size
                      obtain ⟨v4, w4, a1, a2, a3, a4, a5⟩ := run_append_eq9 (P := Tryd.prog) w2 w.heap.size 44 48 i0 _ 7 64 Tryd.underlying44 hi0 z0 z1 z2 rfl (by decide) (.slice vo l.length vc) l.length _ hrow2 [.int .i64 x.w, .bool x.look, .string x.key, .int .i64 x.ref, .pointer (some ⟨wA.heap.size + 1, 0, none⟩), .int .i64 (t : Int), .int .i64 (-1)] rfl (by intro u hu; simp at hu; rcases hu with rfl | rfl | rfl | rfl | rfl | rfl | rfl <;> rfl) (by unfold maxLen; omega) (by omega) (by have h9 : wA.heap.size ≤ w2.heap.size := hs2; omega)
                      exact ⟨v4, w4, a1, a2, a3, a5⟩)
                    have HTA := hide2 TA
                    have HSA : Hid (wA.heap.size = wr.heap.size) := hide2 (by rw [hwA]; simp [World.setCell])
                    clear TA TA0 hcbA hTD
                    go_wp2
                    rw [← hwA]
                    clear hwA y2 y3 y4 y5 cat fat fnow cnow3
                    have y2 := y2A
                    have y3 := y3A
                    have y4 := y4A
                    have y5 := y5A
                    clear y2A y3A y4A y5A
                    refine wp_region_noPanic ?_
                    refine wp_region_held_drew (S := (fun u : World => u.cell? ⟨ab, q, none⟩ = some (.int .i64 (k : Int)) ∧ u.cell? ⟨xb, xoff + k * 4, none⟩ = some (.int .i64 x.w) ∧ u.cell? ⟨xb, xoff + k * 4 + 1, none⟩ = some (.bool x.look) ∧ u.cell? ⟨xb, xoff + k * 4 + 2, none⟩ = some (.string x.key) ∧ u.cell? ⟨xb, xoff + k * 4 + 3, none⟩ = some (.int .i64 x.ref))) (by kernel_rfl) (⟨y1, y2, y3, y4, y5⟩) (fun hHeld => ?_)
                    refine wpAnyH_take (i := 0) (oi := { dst := some 100, op := _, type := _, pos := _, after := _, guard := _ }) (v := ?_) rfl (by kernel_rfl) (by kernel_rfl) (by kernel_rfl) (fun _ _ _ h => h) (Or.inl ⟨by rfl, ?_⟩) (by assumption) ?_
                    rotate_left 1
                    · intro u hSw; obtain ⟨s1, s2, s3, s4, s5⟩ := hSw; go_simp; try with_reducible rfl
                    try simp only [Act.put, List.setIfInBounds_toArray, List.set_cons_zero, List.set_cons_succ]
                    refine wpAnyH_take (i := 1) (oi := { dst := some 101, op := _, type := _, pos := _, after := _, guard := _ }) (v := ?_) rfl (by kernel_rfl) (by kernel_rfl) (by kernel_rfl) (fun _ _ _ h => h) (Or.inl ⟨by rfl, ?_⟩) (by assumption) ?_
                    rotate_left 1
                    · intro u hSw; obtain ⟨s1, s2, s3, s4, s5⟩ := hSw; go_simp; try with_reducible rfl
                    try simp only [Act.put, List.setIfInBounds_toArray, List.set_cons_zero, List.set_cons_succ]
                    refine wpAnyH_take (i := 2) (oi := { dst := some 102, op := _, type := _, pos := _, after := _, guard := _ }) (v := ?_) rfl (by kernel_rfl) (by kernel_rfl) (by kernel_rfl) (fun _ _ _ h => h) (Or.inl ⟨by rfl, ?_⟩) (by assumption) ?_
                    rotate_left 1
                    · intro u hSw; obtain ⟨s1, s2, s3, s4, s5⟩ := hSw; go_simp; try with_reducible rfl
                    try simp only [Act.put, List.setIfInBounds_toArray, List.set_cons_zero, List.set_cons_succ]
                    refine wpAnyH_take (i := 3) (oi := { dst := some 103, op := _, type := _, pos := _, after := _, guard := _ }) (v := ?_) rfl (by kernel_rfl) (by kernel_rfl) (by kernel_rfl) (fun _ _ _ h => h) (Or.inl ⟨by rfl, ?_⟩) (by assumption) ?_
                    rotate_left 1
                    · intro u hSw; obtain ⟨s1, s2, s3, s4, s5⟩ := hSw; go_simp; try with_reducible rfl
                    try simp only [Act.put, List.setIfInBounds_toArray, List.set_cons_zero, List.set_cons_succ]
                    refine wpAnyH_take (i := 4) (oi := { dst := some 104, op := _, type := _, pos := _, after := _, guard := _ }) (v := ?_) rfl (by kernel_rfl) (by kernel_rfl) (by kernel_rfl) (fun _ _ _ h => h) (Or.inl ⟨by rfl, ?_⟩) (by assumption) ?_
                    rotate_left 1
                    · intro u hSw; obtain ⟨s1, s2, s3, s4, s5⟩ := hSw; go_simp; try with_reducible rfl
                    try simp only [Act.put, List.setIfInBounds_toArray, List.set_cons_zero, List.set_cons_succ]
                    refine wpAnyH_take (i := 5) (oi := { dst := some 105, op := _, type := _, pos := _, after := _, guard := _ }) (v := ?_) rfl (by kernel_rfl) (by kernel_rfl) (by kernel_rfl) (fun _ _ _ h => h) (Or.inl ⟨by rfl, ?_⟩) (by assumption) ?_
                    rotate_left 1
                    · intro u hSw; obtain ⟨s1, s2, s3, s4, s5⟩ := hSw; go_simp; try with_reducible rfl
                    try simp only [Act.put, List.setIfInBounds_toArray, List.set_cons_zero, List.set_cons_succ]
                    refine wpAnyH_take (i := 6) (oi := { dst := some 106, op := _, type := _, pos := _, after := _, guard := _ }) (v := ?_) rfl (by kernel_rfl) (by kernel_rfl) (by kernel_rfl) (fun _ _ _ h => h) (Or.inl ⟨by rfl, ?_⟩) (by assumption) ?_
                    rotate_left 1
                    · intro u hSw; obtain ⟨s1, s2, s3, s4, s5⟩ := hSw; go_simp; try with_reducible rfl
                    try simp only [Act.put, List.setIfInBounds_toArray, List.set_cons_zero, List.set_cons_succ]
                    refine wpAnyH_take (i := 7) (oi := { dst := some 107, op := _, type := _, pos := _, after := _, guard := _ }) (v := ?_) rfl (by kernel_rfl) (by kernel_rfl) (by kernel_rfl) (fun _ _ _ h => h) (Or.inl ⟨by rfl, ?_⟩) (by assumption) ?_
                    rotate_left 1
                    · intro u hSw; obtain ⟨s1, s2, s3, s4, s5⟩ := hSw; go_simp; try with_reducible rfl
                    try simp only [Act.put, List.setIfInBounds_toArray, List.set_cons_zero, List.set_cons_succ]
                    refine wpAnyH_take (i := 8) (oi := { dst := some 108, op := _, type := _, pos := _, after := _, guard := _ }) (v := ?_) rfl (by kernel_rfl) (by kernel_rfl) (by kernel_rfl) (fun _ _ _ h => h) (Or.inl ⟨by rfl, ?_⟩) (by assumption) ?_
                    rotate_left 1
                    · intro u hSw; obtain ⟨s1, s2, s3, s4, s5⟩ := hSw; go_simp; try with_reducible rfl
                    try simp only [Act.put, List.setIfInBounds_toArray, List.set_cons_zero, List.set_cons_succ]
                    refine wpAnyH_take (i := 9) (oi := { dst := some 109, op := _, type := _, pos := _, after := _, guard := _ }) (v := ?_) rfl (by kernel_rfl) (by kernel_rfl) (by kernel_rfl) (fun _ _ _ h => h) (Or.inl ⟨by rfl, ?_⟩) (by assumption) ?_
                    rotate_left 1
                    · intro u hSw; obtain ⟨s1, s2, s3, s4, s5⟩ := hSw; go_simp; try with_reducible rfl
                    try simp only [Act.put, List.setIfInBounds_toArray, List.set_cons_zero, List.set_cons_succ]
                    refine wpAnyH_take (i := 10) (oi := { dst := some 110, op := _, type := _, pos := _, after := _, guard := _ }) (v := ?_) rfl (by kernel_rfl) (by kernel_rfl) (by kernel_rfl) (fun _ _ _ h => h) (Or.inl ⟨by rfl, ?_⟩) (by assumption) ?_
                    rotate_left 1
                    · intro u hSw; obtain ⟨s1, s2, s3, s4, s5⟩ := hSw; go_simp; try with_reducible rfl
                    try simp only [Act.put, List.setIfInBounds_toArray, List.set_cons_zero, List.set_cons_succ]
                    refine wpAnyH_take (i := 11) (oi := { dst := some 111, op := _, type := _, pos := _, after := _, guard := _ }) (v := ?_) rfl (by kernel_rfl) (by kernel_rfl) (by kernel_rfl) (fun _ _ _ h => h) (Or.inl ⟨by rfl, ?_⟩) (by assumption) ?_
                    rotate_left 1
                    · intro u hSw; obtain ⟨s1, s2, s3, s4, s5⟩ := hSw; go_simp; try with_reducible rfl
                    try simp only [Act.put, List.setIfInBounds_toArray, List.set_cons_zero, List.set_cons_succ]
                    refine wpAnyH_take (i := 12) (oi := { dst := some 112, op := _, type := _, pos := _, after := _, guard := _ }) (v := ?_) rfl (by kernel_rfl) (by kernel_rfl) (by kernel_rfl) (fun _ _ _ h => h) (Or.inl ⟨by rfl, ?_⟩) (by assumption) ?_
                    rotate_left 1
                    · intro u hSw; obtain ⟨s1, s2, s3, s4, s5⟩ := hSw; go_simp; try with_reducible rfl
                    try simp only [Act.put, List.setIfInBounds_toArray, List.set_cons_zero, List.set_cons_succ]
                    refine wpAnyH_take (i := 13) (oi := { dst := some 113, op := _, type := _, pos := _, after := _, guard := _ }) (v := ?_) rfl (by kernel_rfl) (by kernel_rfl) (by kernel_rfl) (fun _ _ _ h => h) (Or.inl ⟨by rfl, ?_⟩) (by assumption) ?_
                    rotate_left 1
                    · intro u hSw; obtain ⟨s1, s2, s3, s4, s5⟩ := hSw; go_simp; try with_reducible rfl
                    try simp only [Act.put, List.setIfInBounds_toArray, List.set_cons_zero, List.set_cons_succ]
                    refine wpAnyH_take (i := 14) (oi := { dst := some 114, op := _, type := _, pos := _, after := _, guard := _ }) (v := ?_) rfl (by kernel_rfl) (by kernel_rfl) (by kernel_rfl) (fun _ _ _ h => h) (Or.inl ⟨by rfl, ?_⟩) (by assumption) ?_
                    rotate_left 1
                    · intro u hSw; obtain ⟨s1, s2, s3, s4, s5⟩ := hSw; go_simp; try with_reducible rfl
                    try simp only [Act.put, List.setIfInBounds_toArray, List.set_cons_zero, List.set_cons_succ]
                    refine wpAnyH_take (i := 15) (oi := { dst := some 115, op := _, type := _, pos := _, after := _, guard := _ }) (v := ?_) rfl (by kernel_rfl) (by kernel_rfl) (by kernel_rfl) (fun _ _ _ h => h) (Or.inl ⟨by rfl, ?_⟩) (by assumption) ?_
                    rotate_left 1
                    · intro u hSw; obtain ⟨s1, s2, s3, s4, s5⟩ := hSw; go_simp; try with_reducible rfl
                    try simp only [Act.put, List.setIfInBounds_toArray, List.set_cons_zero, List.set_cons_succ]
                    refine wpAnyH_take (i := 17) (oi := { dst := some 117, op := _, type := _, pos := _, after := _, guard := _ }) (v := ?_) rfl (by kernel_rfl) (by kernel_rfl) (by kernel_rfl) (fun _ _ _ h => h) (Or.inl ⟨by rfl, ?_⟩) (by assumption) ?_
                    rotate_left 1
                    · intro u hSw; obtain ⟨s1, s2, s3, s4, s5⟩ := hSw; go_simp; try with_reducible rfl
                    try simp only [Act.put, List.setIfInBounds_toArray, List.set_cons_zero, List.set_cons_succ]
                    refine wpAnyH_ready (rs := [16]) (by kernel_rfl) (by simp) ?_
                    refine AllReadyH.cons (o := { dst := some 116, op := _, type := _, pos := _, after := _, guard := _ }) rfl (fun K hK => ?_) AllReadyH.nil
                    go_simp
                    refine HBG.out.mono ?_
                    rintro e w2 ⟨rfl, ho2, hb2⟩
                    have z1 := (hb2.cell (p := ⟨ab, q, none⟩) abl).trans y1
                    have z2 := (hb2.cell (p := ⟨xb, xoff + k * 4, none⟩) xbl).trans y2
                    have z3 := (hb2.cell (p := ⟨xb, xoff + k * 4 + 1, none⟩) xbl).trans y3
                    have z4 := (hb2.cell (p := ⟨xb, xoff + k * 4 + 2, none⟩) xbl).trans y4
                    have z5 := (hb2.cell (p := ⟨xb, xoff + k * 4 + 3, none⟩) xbl).trans y5
                    have HO2 := hide2 ho2
                    have HB2 := hide2 hb2
                    have hsz2 : wA.heap.size ≤ w2.heap.size := hb2.size
                    clear ho2 hb2
                    go_wp2_with fail
                    refine hK.out _ _ (⟨z1, z2, z3, z4, z5⟩) (fun hHeld => ?_)
                    clear hK K
                    try simp only [Act.put, List.setIfInBounds_toArray, List.set_cons_zero, List.set_cons_succ]
                    refine wpAnyH_take (i := 18) (oi := { dst := some 118, op := _, type := _, pos := _, after := _, guard := _ }) (v := ?_) rfl (by kernel_rfl) (by kernel_rfl) (by kernel_rfl) (fun _ _ _ h => h) (Or.inl ⟨by rfl, ?_⟩) (by assumption) ?_
                    rotate_left 1
                    · intro u hSw; obtain ⟨s1, s2, s3, s4, s5⟩ := hSw; go_simp; try with_reducible rfl
                    try simp only [Act.put, List.setIfInBounds_toArray, List.set_cons_zero, List.set_cons_succ]
                    refine wpAnyH_ready (rs := [19]) (by kernel_rfl) (by simp) ?_
                    refine AllReadyH.cons (o := { dst := some 119, op := _, type := _, pos := _, after := _, guard := _ }) rfl (fun K hK => ?_) AllReadyH.nil
                    go_simp
                    have hbA : Below w2.heap.size w2 (w2.alloc (.cells #[.int .i64 x.w, .bool x.look, .string x.key, .int .i64 x.ref, .pointer (some ⟨wA.heap.size + 1, 0, none⟩), .int .i64 (t : Int), .int .i64 (-1)] 48)) := (Below.refl _ _).alloc (Nat.le_refl _) _
                    have a1 := (hbA.cell (p := ⟨ab, q, none⟩) (by show ab < w2.heap.size; omega)).trans z1
                    have a2 := (hbA.cell (p := ⟨xb, xoff + k * 4, none⟩) (by show xb < w2.heap.size; omega)).trans z2
                    have a3 := (hbA.cell (p := ⟨xb, xoff + k * 4 + 1, none⟩) (by show xb < w2.heap.size; omega)).trans z3
                    have a4 := (hbA.cell (p := ⟨xb, xoff + k * 4 + 2, none⟩) (by show xb < w2.heap.size; omega)).trans z4
                    have a5 := (hbA.cell (p := ⟨xb, xoff + k * 4 + 3, none⟩) (by show xb < w2.heap.size; omega)).trans z5
                    refine hK.out _ _ (⟨a1, a2, a3, a4, a5⟩) (fun hHeld => ?_)
                    clear hK K
                    try simp only [Act.put, List.setIfInBounds_toArray, List.set_cons_zero, List.set_cons_succ]
                    obtain ⟨v4, w4, hap, hown4, hgrow4, hb4⟩ := HAP.out w2 HB2.out
                    refine wpAnyH_ready (rs := [20]) (by kernel_rfl) (by simp) ?_
                    refine AllReadyH.cons (o := { dst := some 120, op := _, type := _, pos := _, after := _, guard := _ }) rfl (fun K hK => ?_) AllReadyH.nil
                    refine step_append_eq9 rfl _ _ _ rfl _ _ v4 w4 rfl rfl hap ?_
                    have c1 : w4.cell? ⟨ab, q, none⟩ = some (.int .i64 (k : Int)) := (World.cell?_of_block (hgrow4.block ab (by simp; omega) (fun e => hvA.1 e.symm))).trans a1
                    have c2 : w4.cell? ⟨xb, xoff + k * 4, none⟩ = some (.int .i64 x.w) := (World.cell?_of_block (hgrow4.block xb (by simp; omega) (fun e => hvx e.symm))).trans a2
                    have c3 : w4.cell? ⟨xb, xoff + k * 4 + 1, none⟩ = some (.bool x.look) := (World.cell?_of_block (hgrow4.block xb (by simp; omega) (fun e => hvx e.symm))).trans a3
                    have c4 : w4.cell? ⟨xb, xoff + k * 4 + 2, none⟩ = some (.string x.key) := (World.cell?_of_block (hgrow4.block xb (by simp; omega) (fun e => hvx e.symm))).trans a4
                    have c5 : w4.cell? ⟨xb, xoff + k * 4 + 3, none⟩ = some (.int .i64 x.ref) := (World.cell?_of_block (hgrow4.block xb (by simp; omega) (fun e => hvx e.symm))).trans a5
                    refine hK.out _ _ (⟨c1, c2, c3, c4, c5⟩) (fun hHeld => ?_)
                    clear hK K
                    try simp only [Act.put, List.setIfInBounds_toArray, List.set_cons_zero, List.set_cons_succ]
                    refine wpAnyH_take (i := 21) (oi := { dst := some 8, op := _, type := _, pos := _, after := _, guard := _ }) (v := ?_) rfl (by kernel_rfl) (by kernel_rfl) (by kernel_rfl) (fun _ _ _ h => h) (Or.inl ⟨by rfl, ?_⟩) (by assumption) ?_
                    rotate_left 1
                    · intro u hSw; obtain ⟨s1, s2, s3, s4, s5⟩ := hSw; go_simp; try with_reducible rfl
                    try simp only [Act.put, List.setIfInBounds_toArray, List.set_cons_zero, List.set_cons_succ]
                    refine wpAnyH_done (by kernel_rfl) ?_ _
                    refine NoPanic.normal ?_
                    have hFB : Below wA.heap.size wA w2 := ⟨HB2.out.os, HB2.out.tape, HB2.out.output, HB2.out.size, HB2.out.block⟩
                    have T4 := HTA.out.pushed (u := ⟨x, opB s x.key (!x.look) (if x.look = true then 0 else x.ref), wA.heap.size + 1, t, none⟩) hFB HO2.out (Nat.le_succ _) (((Fr.refl (fun j => (Value.slice vo l.length vc).ownBlock = some j) w2).alloc _).trans (Fr.grown hgrow4 (fun j e => e)) (fun j e => .inl e)) hown4 (fun j e => by
                      rcases hb4 with q9 | q9
                      · exact .inl (by rw [← q9]; exact e)
                      · right
                        rw [q9] at e
                        have : w2.heap.size + 1 = j := Option.some.inj e
                        omega)
                    have c1 := T4.at_cell hq4
                    rw [← HK.out] at c1
                    have f1 := Go.Joins.unfrozen_of_block T4.atb q
                    have TB := T4.setAt q (k + 1)
                    have ek : at5.set q (k + 1) = at5.set q (at5.getD q 0 + 1) := by rw [HK.out]
                    rw [ek] at TB
                    have HLB := hide2 (L5.out.begun hq4 HQP.out HNOW.out HX.out HW.out TB)
                    have abl4 := (Array.getElem?_eq_some_iff.1 T4.atb).1
                    obtain ⟨gt, capt, ev4⟩ := hrow_succ hown4
                    clear hown4 hgrow4 hb4 hap T4 TB hFB HO2 HB2 HAP HTA HBG
                    subst ev4
                    go_wp2
                    go_roundw
                    case rel => exact ⟨t + 1, K, s, _, _, _, by omega, by go_num, HD0, HLB⟩
                    case measure => simp [intOf]; omega

                  · have hpast := L5.out.past hq4 HX.out hw
                    rw [← HK.out] at hpast
                    have HPA := hide2 hpast
                    have hwne : ¬ ((wkr x.w : Nat) : Int) = (q : Int) := by omega
                    have hwne2 : (((wkr x.w : Nat) : Int) != (q : Int)) = true := by simp; omega
                    have HCN2 : Hid (cnat (wr.setCell ⟨ab, q, none⟩ (.int .i64 ((k + 1 : Nat) : Int))) ab q = k + 1) := hide2 (by
                      have hla := L5.out.tm.la.1
                      have := hpast.tm.at_cell hq4
                      rw [getD4 hla hq4, if_pos rfl] at this
                      exact cnat_of this)
                    generalize hwv : wkr x.w = wv at hr54 hwne hwne2
                    clear hpast hwv hw
                    go_wp2
                    go_roundw
                    case rel => exact ⟨_, HPA⟩
                    case measure =>
                      have h9 := HCN2.out
                      rw [show ((k + 1 : Nat) : Int) = (k : Int) + 1 by omega] at h9
                      rw [HCN.out, h9]
                      omega
                · obtain rfl : k = n := by omega
                  have hr0 : rem xs (at5.getD q 0) q = 0 := by rw [← hk, ← HXL.out]; exact rem_end xs q
                  have HID := hide2 (L5.out.idle hq4 HQP.out HNOW.out hr0)
                  clear hr0 hk HCN
                  go_wp2
                  go_roundw
                  case rel => exact ⟨t + 1, K, s, l, at5, now4, by omega, by go_num, HD0, HID⟩
                  case measure => simp [intOf]; omega
            | some j =>
              rw [hnow] at cnow
              have cnow2 : wr.cell? ⟨nb, q, none⟩ = some (.int .i64 (j : Int)) := cnow
              obtain ⟨u, hu, hf, hwk⟩ := L.out.ti.nw q j hnow
              have hum := List.mem_of_getElem? hu
              have hjl : j < l.length := (List.getElem?_eq_some_iff.1 hu).1
              obtain ⟨g, cap9, ev9⟩ : ∃ g cap9, Value.slice vo l.length vc = .slice (some ⟨g, 0, none⟩) l.length cap9 := by
                rcases L.out.tm.row.2 with ⟨e, e0⟩ | ⟨g9, c9, cur9, e, -⟩
                · omega
                · exact ⟨g9, c9, e⟩
              simp only [Value.slice.injEq, true_and] at ev9
              obtain ⟨rfl, rfl⟩ := ev9
              have hrowc : ∀ i, i < 7 → wr.cell? ⟨g, j * 7 + i, none⟩ = u.cells[i]? := fun i hi => by
                rw [World.ownsRow.cellAt L.out.tm.row (j * 7 + i) (by omega), flat7 l j i u hu hi]
              have cp : wr.cell? ⟨g, j * 7 + 4, none⟩ = some (.pointer (some ⟨u.b, 0, none⟩)) := hrowc 4 (by decide)
              have hji : (j : Int) < (l.length : Int) := by omega
              have hj0 : ¬ (j : Int) < 0 := by omega
              have hui := L.out.ti.one u hum
              obtain ⟨fc1, fc2, fc3, fc4, fc5⟩ := L.out.facts (by rw [HXL.out]; exact hn)
              have hou := L.out.tm.ops u hum
              have hko := L.out.tm.ko u hum
              have hul : u.b < wr.heap.size := hou.lt
              -- the step, whatever the key is
              have hstep : Calls Tryd.prog 25 #[.pointer (some ⟨u.b, 0, none⟩)] wr fun e w' => ∃ s' o' K', e = .returned (.bool (decide (o'.st = 3))) ∧ ((good u.x.key = true ∧ Stp 400 s u.o s' o') ∨ (good u.x.key = false ∧ s' = s ∧ o' = u.o.ans 0 false 90)) ∧ Tm w w' tb d (t + 1) K' s' (l.set j { u with o := o' }) (.slice (some ⟨g, 0, none⟩) l.length vc) ab nb at4 now4 := by
                cases hg : good u.x.key with
                | true =>
                  have hr := hui.run hf hg
                  refine (L.out.tm.ht.step hou hko.1 hr.oi hr.st (fun e => ?_) (fun _ e => by omega) (by omega)).mono ?_
                  · unfold Opm.spare
                    cases hc : u.o.cell with
                    | none => exact absurd hc (hr.two e).1
                    | some c => simpa using hr.cell c hc
                  · rintro e w' ⟨s', o', K', rfl, h1, h2, h3, h4, h5⟩
                    exact ⟨s', o', K', rfl, .inl ⟨rfl, h1⟩, L.out.tm.went hu h2 h3 h4 h5⟩
                | false =>
                  obtain ⟨g2, hb9, hc9, mb9, sv9, D9, T9, N9, m9, F9, hH9, hV9, r9⟩ := L.out.tm.ht
                  have hnr := hui.nrun hf hg
                  refine (step_bad hH9.tk hV9.n1.1 hou hnr.1 hnr.2.1).mono ?_
                  rintro e w' ⟨rfl, h1, h2⟩
                  have hF : Fr (fun j => K j ∨ j = u.b) wr w' := h2.mono (fun _ _ e => .inr e)
                  exact ⟨s, _, K, rfl, .inr ⟨rfl, rfl, rfl⟩, L.out.tm.went hu ((L.out.tm.ht.keep h2 (fun j hj e => hko.1 (e ▸ hj)) (fun e => by have := hko.2; omega)).up (Nat.le_succ _)) h1 (fun _ _ => Iff.rfl) hF⟩
              have HST := hide2 hstep
              have HNOW := hide2 hnow
              have HL := hide2 L.out
              have HU := hide2 hu
              have HF := hide2 hf
              clear hstep cnow hnow hrowc hui hou hko L hum hu hf fc1 fc2 fc3 fc4 fc5 hwk
              go_wp2_with fail
              refine HST.out.mono ?_
              rintro e w1 ⟨s', o', K', rfl, hst, hT⟩
              clear HST
              have HD1 : Hid (s'.hd.length = nbk) := hide2 (by
                rcases hst with ⟨_, q9⟩ | ⟨_, q9, _⟩
                · rw [q9.hd]; exact HD0.out
                · rw [q9]; exact HD0.out)
              by_cases h3 : o'.st = 3
              · have hd : decide (o'.st = 3) = true := decide_eq_true h3
                have cn1 : w1.cell? ⟨nb, q, none⟩ = some (.int .i64 (j : Int)) := by
                  have := hT.now_cell hq4
                  rw [HNOW.out] at this
                  exact this
                have fr6 : w1.frozen? ⟨g, j * 7 + 6, none⟩ = false := World.ownsRow.frozenAt (by have := hT.row; rw [List.length_set] at this; exact this) (j * 7 + 6)
                have cr6 : w1.cell? ⟨g, j * 7 + 6, none⟩ = some (.int .i64 (-1)) := by
                  have hrw := hT.row
                  rw [List.length_set] at hrw
                  rw [World.ownsRow.cellAt hrw (j * 7 + 6) (by omega), flat7 _ j 6 { u with o := o' } (set_new HU.out) (by decide)]
                  show some (Value.int .i64 (finI u.fin)) = _
                  rw [HF.out]; rfl
                have hE := hT.ended (by rw [List.length_set]) (set_new HU.out) (some t)
                have hE2 := hE.setNow q none
                have cn2 : (w1.setCell ⟨g, j * 7 + 6, none⟩ (.int .i64 (t : Int))).cell? ⟨nb, q, none⟩ = some (.int .i64 (j : Int)) := by
                  have := hE.now_cell hq4
                  rw [HNOW.out] at this
                  exact this
                have fn2 : (w1.setCell ⟨g, j * 7 + 6, none⟩ (.int .i64 (t : Int))).frozen? ⟨nb, q, none⟩ = false := Go.Joins.unfrozen_of_block hE.nowb q
                have el : (l.set j { u with o := o' }).set j { ({ u with o := o' } : Un) with fin := some t } = l.set j (u.went o' t) := by
                  rw [List.set_set]
                  unfold Un.went
                  rw [if_pos h3]
                rw [el] at hE2
                have HLS := hide2 (HL.out.stepped (by rw [HXL.out]; exact hn) hq4 HQP.out HNOW.out HU.out hE2 (fun q2 => by
                  rw [getD4 HL.out.tm.la.2 hq4]
                  by_cases e2 : q2 = q
                  · rw [if_pos e2, if_pos ⟨e2, h3⟩]
                  · rw [if_neg e2, if_neg (fun c => e2 c.1)]) hst)
                clear hE hE2 el hT hst HL h3
                go_wp2
                go_roundw
                case rel => exact ⟨t + 1, K', s', _, _, _, by omega, by go_num, HD1, HLS⟩
                case measure => simp [intOf]; omega
              · have hd : decide (o'.st = 3) = false := decide_eq_false h3
                have el : l.set j { u with o := o' } = l.set j (u.went o' t) := by
                  unfold Un.went
                  rw [if_neg h3, ← HF.out]
                rw [el] at hT
                have HLS := hide2 (HL.out.stepped (by rw [HXL.out]; exact hn) hq4 HQP.out HNOW.out HU.out hT (fun q2 => by rw [if_neg (fun c => h3 c.2)]) hst)
                clear el hT hst HL h3
                go_wp2
                go_roundw
                case rel => exact ⟨t + 1, K', s', _, _, _, by omega, by go_num, HD1, HLS⟩
                case measure => simp [intOf]; omega


        · have d1 : ¬ (t : Int) < (P : Int) + (Tn : Int) := by omega
          have L2 : Tl w wr tb d xs P (P + 4 * (xs.length * (8 * xs.length + 20))) K s l u8 ab nb at4 now4 := by
            have e1 : t = P + 4 * (xs.length * (8 * xs.length + 20)) := by rw [HXL.out, ← HTN.out]; omega
            rw [← e1]; exact L.out
          obtain ⟨g1, g2, g3, g4⟩ := L2.done
          have hvf : ∃ vo vc, u8 = .slice vo l.length vc := by
            rcases L2.tm.row.2 with ⟨e, e0⟩ | ⟨g9, c9, cur9, e, -⟩
            · exact ⟨none, 0, by rw [e, e0]⟩
            · exact ⟨_, c9, e⟩
          obtain ⟨vo, vc, ev⟩ := hvf
          subst ev
          have hln : ¬ (l.length : Int) < (n : Int) := by rw [g1, HXL.out]; omega
          have hln2 : ¬ l.length < n := by omega
          have HC : Hid (∀ m, m < 4 → wr.cell? ⟨nb, m, none⟩ = some (.int .i64 (-1))) := hide2 (fun m hm => by
            have := L2.tm.now_cell hm
            rw [g2 m hm] at this
            exact this)
          have HL2 := hide2 L2
          clear L L2 g1 g2 g3 g4
          go_wp2
          obtain ⟨wQ, hwQ⟩ : ∃ y, y = wr := ⟨_, rfl⟩
          subst hwQ
          go_loopw [16] (fun i wr => ∃ m : Nat, m ≤ 4 ∧ i = .int .i64 m ∧ wr = wQ) (fun i _ => 4 - (intOf i).toNat)
          case atStart => exact ⟨0, by omega, rfl, rfl⟩
          case round =>
            obtain ⟨m, hm, rfl, hwr⟩ := hrel
            subst hwr
            by_cases hm4 : m < 4
            · have hmi : (m : Int) < 4 := by omega
              have cm := HC.out m hm4
              go_wp2
              go_round
              case rel => exact ⟨m + 1, by omega, by go_num, trivial⟩
              case measure => simp [intOf]; omega
            · have hmi : ¬ (m : Int) < 4 := by omega
              go_wp2
              go_ret2
              exact ⟨K, s, l, _, rfl, HD0.out, ab, nb, at4, now4, HL2.out⟩
end
end Go.Proofs.YtbpihkojmbfccaaDoor
