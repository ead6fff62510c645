/-
  The walk of the law DiskLasts.
-/
import Derived.Test.YtolaagbdnchhiaaLastsQ
import Derived.Test.YtolaagbdnchhiaaDiskPrefix
set_option linter.unusedVariables false
set_option linter.unusedSimpArgs false
namespace Go.Proofs.Ytolaagbdnchhiaa
open Go.RowKit Go.Maps Go.Sort

/-- One call of a script, as a script. -/
theorem Sc.one {w : World} {b off len cap : Nat} {os : List OpR} (h : Sc w (some ⟨b, off, none⟩) len cap os) {k : Nat} {o : OpR} (ho : os[k]? = some o) : Sc w (some ⟨b, off + k * 8, none⟩) 1 (cap - k) [o] := by
  obtain ⟨h1, h2, h3, h4, h5⟩ := h
  have hk : k < len := by have := (List.getElem?_eq_some_iff.1 ho).1; omega
  refine ⟨rfl, by omega, by omega, fun o' ho' => ?_, fun _ => ?_⟩
  · simp at ho'
    subst ho'
    exact h4 _ (List.mem_of_getElem? ho)
  · obtain ⟨b', off', e, hl, hc⟩ := h5 (by omega)
    cases e
    refine ⟨b, off + k * 8, rfl, hl, fun i o' hi j u hu => ?_⟩
    have hi0 : i = 0 := by
      rcases Nat.eq_zero_or_pos i with e | e
      · exact e
      · rw [List.getElem?_eq_none (by simp; omega)] at hi; cases hi
    subst hi0
    simp at hi
    subst hi
    have := hc k o ho j u hu
    rw [Nat.zero_mul, Nat.add_zero]
    exact this

theorem Sc.fr {F : Nat → Prop} {w w' : World} {ao : Option Addr} {len cap : Nat} {os : List OpR} (h : Sc w ao len cap os) (hF : Fr F w w') (n : Nat) (hn : n ≤ w.heap.size) (hlow : (0 < len → ∀ b off, ao = some ⟨b, off, none⟩ → b < n) ∧ ∀ o ∈ os, 0 < o.bl → ∀ b off, o.bo = some ⟨b, off, none⟩ → b < n) (hout : ∀ j, j < n → ¬ F j) : Sc w' ao len cap os := by
  obtain ⟨h1, h2, h3, h4, h5⟩ := h
  refine ⟨h1, h2, h3, fun o ho => ⟨(h4 o ho).lo, (h4 o ho).hi, (h4 o ho).nam, (h4 o ho).tos, (h4 o ho).sl.fr hF fun h0 b off e => hout b (hlow.2 o ho h0 b off e)⟩, fun hl => ?_⟩
  obtain ⟨b, off, e, hlt, hc⟩ := h5 hl
  exact ⟨b, off, e, Nat.lt_of_lt_of_le hlt hF.size, fun i o hi j u hu => (hF.cell (p := ⟨b, off + i * 8 + j, none⟩) hlt (hout b (hlow.1 hl b off e))).trans (hc i o hi j u hu)⟩

theorem not_lasting {s : ByteArray} (h : s ≠ lasting) : ¬ s.toList = [108, 97, 115, 116, 105, 110, 103] := by
  rw [ByteArray.toList_eq]
  exact fun e => h (ByteArray.ext (Array.toList_inj.1 e))

theorem Try.sizeOp (u : World) : (Go.sizeOf 36).run Try.prog u = .ok 8 u := by kernel_rfl

theorem cut_one (b off len cap k : Nat) (hk : k < len) (hc : len ≤ cap) (u : World) : (Instr.slice 22 (.slice (some ⟨b, off, none⟩) len cap) (some (.int .i64 (k : Int))) (some (.int .i64 ((k : Int) + 1))) none).run Try.prog u = .ok (.slice (some ⟨b, off + k * 8, none⟩) 1 (cap - k)) u := by
  have hut := Try.underlying22
  have ht' : Try.prog.underlying 22 = some (.slice (Try.prog.elem 22)) := by simp [Program.elem, hut]
  have he : Try.prog.elem 22 = 36 := by simp [Program.elem, hut]
  rw [run_slice_lh u 22 (some ⟨b, off, none⟩) len cap ht' .i64 .i64 k ((k : Int) + 1) (by omega) (by omega) (by omega), he, Try.sizeOp]
  have e1 : ((k : Int) + 1).toNat = k + 1 := by omega
  simp only [Result.andThen, Int.toNat_natCast, e1]
  simp [sliced, addr_add]
  omega

set_option maxHeartbeats 8000000 in
set_option maxRecDepth 100000 in
theorem lasts_walk (ao : Option Addr) (len cap : Nat) (os : List OpR) (bo : Option Addr) (bl bc : Nat) (xs : List Int) (to : Option Addr) (tl tc : Nat) (ts : List OpR) (ke di te : Int) (w : World) (h : Sc w ao len cap os) (hb : Sl w bo bl bc xs) (ht : Sc w to tl tc ts) :
    Calls Try.prog 5 #[.slice ao len cap, .slice bo bl bc, .slice to tl tc, .agg #[.int .i64 ke, .int .i64 di, .int .i64 te]] w fun e w' => e = .returned (.bool true) ∧ Below w.heap.size w w' := by
  have hlow := h.low
  have tlow := ht.low
  have blow : 0 < bl → ∀ b off, bo = some ⟨b, off, none⟩ → b < w.heap.size := fun h0 b off e => by
    obtain ⟨b', off', e', hl, _⟩ := hb.2.2.2.2.2 h0
    rw [e] at e'
    cases e'
    exact hl
  have b0 : Below w.heap.size w (w.alloc (.cells #[.int .i64 ke, .int .i64 di, .int .i64 te] 34)) := (Below.refl _ _).alloc (Nat.le_refl _) _
  have fa0 : (w.alloc (.cells #[.int .i64 ke, .int .i64 di, .int .i64 te] 34)).heap[w.heap.size]? = some (.cells #[.int .i64 ke, .int .i64 di, .int .i64 te] 34 (0, 0)) := heap_alloc_new w _
  have s0 : (w.alloc (.cells #[.int .i64 ke, .int .i64 di, .int .i64 te] 34)).heap.size = w.heap.size + 1 := by simp
  go_enter Try.func5, Try.ntmps5
  go_wp2_with fail
  refine (shown_any _).mono ?_
  rintro e w1 ⟨rfl, b1⟩
  have B1 : Below w.heap.size w w1 := b0.trans (b1.mono (by omega))
  have fa1 := (b1.block w.heap.size (by omega)).trans fa0
  have s1 := b1.size
  rw [s0] at s1
  clear b0 b1 fa0 s0
  go_wp2_with fail
  refine (new_any w1).mono ?_
  rintro e w2 ⟨rfl, hw2⟩
  have b12 : Below w1.heap.size w1 w2 := by rw [hw2]; exact (Below.refl _ _).alloc (Nat.le_refl _) _
  have s2 : w2.heap.size = w1.heap.size + 1 := by rw [hw2]; simp
  have k2 : Dk w2 w1.heap.size (.map none) (.map none) (.slice none 0 0) 0 0 false false := by rw [hw2]; exact heap_alloc_new w1 _
  clear hw2
  have B2 : Below w.heap.size w w2 := B1.trans (b12.mono B1.size)
  have fa2 := (b12.block w.heap.size (by omega)).trans fa1
  obtain ⟨d, hd⟩ : ∃ d, d = w1.heap.size := ⟨_, rfl⟩
  rw [← hd] at k2 s2 s1 ⊢
  have hpl := play_q (B := w2.heap.size) (Q := Q1) 0 (new_rep k2 _) AD.new_ok ⟨rfl, rfl⟩ ⟨fun k hk => by
    have e : AD.new.chs.take k = [] := by cases k <;> rfl
    rw [e]
    exact inj_empty, by decide⟩ (Nat.le_refl _) ao len cap os (h.below B2) 100 (by decide) (fun o ho h0 b off e => by have := hlow.2 o ho h0 b off e; omega) (fun o _ => qp1 o) (fun h0 b off e => by have := hlow.1 h0 b off e; omega)
  clear hd b12 B1 k2 fa1
  go_wp2_with fail
  refine hpl.mono ?_
  rintro e w3 ⟨rfl, S1, k1, _, hk1, r3, ok1, pl1, q1, F3⟩
  have hz3 := F3.size
  clear hpl h hlow
  go_wp2_with fail
  refine (rep_delete r3 ok1 pl1.on (by omega) lasting (by unfold maxLen; decide)).mono ?_
  rintro e w4 ⟨x4, S2, rfl, r4, ok2, F4, n4, y4, p4, hp4, hx4⟩
  have hops1 : S1.ops ≤ 100 := by have := q1.2; omega
  have hS2 : S2.plain ∧ S2.apart ∧ S2.ops ≤ 101 ∧ Maps.has (dn S2.now) (kl lasting) = false := by
    by_cases e : x4 = 0
    · obtain ⟨rfl, _⟩ := y4 e
      refine ⟨pl1, apart_del ok1 q1.1 _, by show S1.ops + 1 ≤ 101; omega, ?_⟩
      show Maps.has (dn ((dn S1.now).del (kl lasting))) (kl lasting) = false
      rw [dn_has (.inr ((dn_map ok1.isn).del _)), has_del_same]
    · obtain rfl := n4 e
      refine ⟨pl1, q1.1, by omega, ?_⟩
      rcases ok1.lead lasting with ⟨h1, _⟩ | ⟨f, _, _, _, h3, _⟩
      · exact h1
      · exfalso
        have e2 := hp4.symm.trans h3
        simp at e2
        subst e2
        rw [isName_lasting, code_ok (by omega)] at hx4
        exact e hx4
  obtain ⟨pl2, ap2, ops2, nh2⟩ := hS2
  have F24 := F3.trans F4 (fun j e => .inl e)
  have hz4 := F24.size
  have hb4 : Sl w4 bo bl bc xs := (hb.below B2).fr F24 (fun h0 b off e hF => by
    have := blow h0 b off e
    rcases hF with hF | hF <;> omega)
  clear n4 y4 p4 hp4 hx4 F3 F4 q1
  go_wp2_with fail
  refine (rep_append r4 ok2 pl2.on (by omega) lasting (by unfold maxLen; decide) bo bl bc xs hb4 (fun h0 b off e => by have := blow h0 b off e; omega)).mono ?_
  rintro e w5 ⟨x5, S3, rfl, r5, ok3, F5, h5⟩
  have F25 := F24.trans F5 (fun j e => .inl e)
  have B5 : Below w.heap.size w w5 := B2.trans (F25.to (fun k hk e => by
    rcases e with e | e <;> omega) (by omega))
  rcases h5 with ⟨_, hno, _⟩ | ⟨rfl, _, _, _⟩ | ⟨rfl, _, _, _, _, _, f, hff, _, rfl⟩ | ⟨_, _, _, f, y, hat, _⟩
  · rw [isName_lasting] at hno
    cases hno
  · go_wp2
    go_ret
    exact ⟨rfl, B5⟩
  · have hm3 : IsMap ((dn S2.now).put (kl lasting) (pt f)) := (dn_map ok2.isn).put _ _
    have to3 : To (dn (S2.made lasting f xs).now) lasting f := by
      show To (dn ((dn S2.now).put (kl lasting) (pt f))) lasting f
      rw [dn_id hm3]
      exact (to_put (dn_map ok2.isn)).2 (.inl ⟨rfl, rfl⟩)
    have fil3 : (S2.made lasting f xs).fil f = some (xs, 0) := upd_same _ _ _
    have ap3 : (S2.made lasting f xs).apart := apart_made ok2 ap2 _ xs hff
    have pl3 : (S2.made lasting f xs).plain := pl2
    have ops3 : (S2.made lasting f xs).ops ≤ 102 := by show S2.ops + 1 ≤ 102; omega
    generalize S2.made lasting f xs = S3 at r5 ok3 to3 fil3 ap3 pl3 ops3
    have hz5 := F25.size
    clear hm3 hff nh2 ap2 pl2 ok2 r4 hb4 F5 F24
    go_wp2_with fail
    refine (rep_sync r5 ok3 pl3.on (by omega) lasting (by unfold maxLen; decide)).mono ?_
    rintro e w6 ⟨x6, S4, rfl, r6, ok4, F6, n6, y6, p6, hp6, hx6⟩
    obtain rfl : x6 = 0 := by
      rcases ok3.lead lasting with ⟨h1, _⟩ | ⟨g, _, _, _, h3, _⟩
      · have := to3.has
        rw [h1] at this
        cases this
      · have e2 := hp6.symm.trans h3
        simp at e2
        subst e2
        rw [hx6, isName_lasting, code_ok (by omega)]
    obtain ⟨g, y, hat, hgy, rfl, _⟩ := y6 rfl
    obtain rfl : f = g := to3.one hat
    rw [fil3] at hgy
    cases hgy
    have F26 := F25.trans F6 (fun j e => .inl e)
    have hz6 := F26.size
    have fil4 : (S3.synced f (xs, 0)).fil f = some (xs, xs.length) := if_pos rfl
    have to4 : To (dn (S3.synced f (xs, 0)).now) lasting f := to3
    have ap4 : (S3.synced f (xs, 0)).apart := ap3
    have pl4 : (S3.synced f (xs, 0)).plain := pl3
    have ops4 : (S3.synced f (xs, 0)).ops ≤ 103 := by show S3.ops + 1 ≤ 103; omega
    generalize S3.synced f (xs, 0) = S4 at r6 ok4 to4 fil4 ap4 pl4 ops4
    clear n6 y6 hp6 hx6 hat to3 fil3 ap3 pl3 ok3 r5 F25 F6
    go_wp2_with fail
    refine (rep_syncDir r6 ok4 pl4.on (by omega)).mono ?_
    rintro e w7 ⟨x7, S5, rfl, r7, ok5, F7, hx7, hS5⟩
    rw [if_neg (by omega)] at hx7 hS5
    subst hx7 hS5
    have F27 := F26.trans F7 (fun j e => .inl e)
    have pl5 : S4.dirSynced.plain := pl4
    have q5 : Q2 lasting f (xs, xs.length) 0 S4.dirSynced := ⟨apart_sync ok4 ap4, fun k hk => by
      show To (runs (([] : List Ch).take k) (dn (dn S4.now))) lasting f
      rw [List.take_nil, dn_id (dn_map ok4.isn)]
      exact to4, fil4⟩
    generalize S4.dirSynced = S5 at r7 ok5 pl5 q5
    clear r6 ok4 to4 fil4 ap4 pl4 ops4 F26 F7 B5
    have htl : (tl : Int) ≤ 9223372036854775807 := by have := ht.2.1; have := ht.2.2.1; unfold maxLen at this; omega
    go_wp2
    go_loopw [15] (fun i wr => ∃ (k : Nat) (S : AD), k ≤ tl ∧ k ≤ 100 ∧ i = .int .i64 (k : Int) ∧ Rep wr w2.heap.size d S ∧ S.ok ∧ S.plain ∧ Q2 lasting f (xs, xs.length) 0 S ∧ Fr (FD w2.heap.size d) w2 wr) (fun i _ => 100 - (intOf i).toNat)
    case atStart => exact ⟨0, S5, by omega, by omega, rfl, r7, ok5, pl5, q5, F27⟩
    case round =>
      obtain ⟨k, S, hk1, hk2, rfl, r8, ok8, pl8, q8, F8⟩ := hrel
      clear r7 ok5 pl5 q5 F27
      have hz8 := F8.size
      have hout : ∀ j, j < w.heap.size → ¬ FD w2.heap.size d j := fun j hj e => by rcases e with e | e <;> omega
      by_cases hin : k < tl ∧ k < 100
      · obtain ⟨hlt, hlt2⟩ := hin
        obtain ⟨o, ho⟩ : ∃ o, ts[k]? = some o := ⟨ts[k]'(by rw [ht.1]; exact hlt), List.getElem?_eq_getElem (by rw [ht.1]; exact hlt)⟩
        have ht8 : Sc wr to tl tc ts := (ht.below B2).fr F8 w.heap.size (by have := B2.size; omega) tlow hout
        obtain ⟨b, off, hto, hbl, hcell⟩ := ht8.2.2.2.2 (by omega)
        subst hto
        have q1 : wr.cell? ⟨b, off + k * 8 + 1, none⟩ = some (.string o.name) := hcell k o ho 1 _ rfl
        have q2 : wr.cell? ⟨b, off + k * 8 + 2, none⟩ = some (.string o.to) := hcell k o ho 2 _ rfl
        have hi1 : (k : Int) < (tl : Int) := by omega
        have hi2 : (k : Int) < 100 := by omega
        have hcut := cut_one b off tl tc k hlt ht8.2.1
        have hone := ht8.one ho
        have hlo := tlow.2 o (List.mem_of_getElem? ho)
        have hlo1 := tlow.1 (by omega) b off rfl
        clear hcell ht8
        by_cases hn : o.name = lasting
        · have e1 : o.name.toList = [108, 97, 115, 116, 105, 110, 103] := by rw [hn]; decide +kernel
          clear hn
          go_wp2
          go_roundw
          case rel => exact ⟨k + 1, S, by omega, by omega, by go_num, r8, ok8, pl8, q8, F8⟩
          case measure => simp [intOf]; omega
        · have e1 := not_lasting hn
          by_cases hn2 : o.to = lasting
          · have e2 : o.to.toList = [108, 97, 115, 116, 105, 110, 103] := by rw [hn2]; decide +kernel
            clear hn2
            go_wp2
            go_roundw
            case rel => exact ⟨k + 1, S, by omega, by omega, by go_num, r8, ok8, pl8, q8, F8⟩
            case measure => simp [intOf]; omega
          · have e2 := not_lasting hn2
            have e1b : (o.name.toList == [108, 97, 115, 116, 105, 110, 103]) = false := by simpa using e1
            have e2b : (o.to.toList == [108, 97, 115, 116, 105, 110, 103]) = false := by simpa using e2
            have hpl := play_q (Q := Q2 lasting f (xs, xs.length)) 0 r8 ok8 pl8 q8 (by omega) (some ⟨b, off + k * 8, none⟩) 1 (tc - k) [o] hone 1 (by decide) (fun o' ho' h0 b' off' e => by
              simp at ho'
              subst ho'
              have := hlo h0 b' off' e
              omega) (fun o' ho' => by
              simp at ho'
              subst ho'
              exact qp2 hn hn2) (fun _ b' off' e => by
              cases e
              omega)
            clear r8 ok8 pl8 q8 hone hlo hn hn2
            go_wp2_with fail
            refine hpl.mono ?_
            rintro e w9 ⟨rfl, S', k', _, _, r9, ok9, pl9, q9, F9⟩
            have HF := hide2 (F8.trans F9 (fun j e => .inl e))
            clear hpl F9 F8
            go_wp2
            go_roundw
            case rel => exact ⟨k + 1, S', by omega, by omega, by go_num, r9, ok9, pl9, q9, HF.out⟩
            case measure => simp [intOf]; omega
            all_goals (exfalso; simp_all)
      · have fa8 : wr.heap[w.heap.size]? = some (.cells #[.int .i64 ke, .int .i64 di, .int .i64 te] 34 (0, 0)) := (F8.block _ (by omega) (fun e => by rcases e with e | e <;> omega)).trans fa2
        have z0 : wr.cell? ⟨w.heap.size, 0, none⟩ = some (.int .i64 ke) := by rw [Go.Joins.cell_of_block fa8]; rfl
        have z1 : wr.cell? ⟨w.heap.size, 1, none⟩ = some (.int .i64 di) := by rw [Go.Joins.cell_of_block fa8]; rfl
        have z2 : wr.cell? ⟨w.heap.size, 2, none⟩ = some (.int .i64 te) := by rw [Go.Joins.cell_of_block fa8]; rfl
        have hb8 : Sl wr bo bl bc xs := (hb.below B2).fr F8 (fun h0 b off e => hout b (blow h0 b off e))
        have B8 : Below w.heap.size w wr := B2.trans (F8.to hout (by have := B2.size; omega))
        have to8 := q8.2.crash di
        have hfil := q8.2.2
        clear q8 fa8 hout F8 ht tlow
        by_cases hc : k < tl
        all_goals (try have hc2 : ¬ k < 100 := by omega)
        all_goals
          go_wp2_with fail
          refine (rep_crash r8 ok8 ke di te).mono ?_
          rintro e w9 ⟨d9, rfl, sn9, b9⟩
          have hb9 := hb8.below b9
          have B9 := B8.trans (b9.mono B8.size)
          clear hb8 B8 b9 z0 z1 z2
          go_wp2_with fail
          refine (see_read sn9 lasting isName_lasting f xs to8 (by show (S.fil f).map (leftOf ke te) = some xs; rw [hfil]; exact congrArg some (left_synced ke te xs))).mono ?_
          rintro e w10 ⟨ac, lc, cc, rfl, slc, b10⟩
          have hb10 := hb9.below b10
          have B10 := B9.trans (b10.mono B9.size)
          have hx := slc.str (P := Try.prog) 32 Try.underlying32 Try.underlying5 Try.underlying9
          have hy := hb10.str (P := Try.prog) 32 Try.underlying32 Try.underlying5 Try.underlying9
          have hee : ((strOfNums xs).toList == (strOfNums xs).toList) = true := by simp
          clear sn9 hb9 B9 b10 slc hb10 r8 ok8
          go_wp2
          go_ret
          exact ⟨ret_bool (by simp), B10⟩
  · have := has_true_of_atKey hat
    rw [nh2] at this
    cases this
end Go.Proofs.Ytolaagbdnchhiaa
