/-
  DiskCuts' walk.
-/
import Derived.Test.YtgckkjkbjabgfaaCuts
set_option linter.unusedVariables false
set_option linter.unusedSimpArgs false
namespace Go.Proofs.Ytgckkjkbjabgfaa
open Go.RowKit Go.Maps

set_option maxHeartbeats 8000000 in
set_option maxRecDepth 100000 in
theorem cuts_walk (ao : Option Addr) (len cap : Nat) (os : List OpR) (at0 : Int) (ke di te : Int) (w : World) (h : Sc w ao len cap os) :
    Calls Try.prog 7 #[.slice ao len cap, .int .i64 at0, .agg #[.int .i64 ke, .int .i64 di, .int .i64 te]] w fun e w' => e = .returned (.bool true) ∧ Below w.heap.size w w' := by
  have hlow := h.low
  have b0 : Below w.heap.size w (w.alloc (.cells #[.int .i64 ke, .int .i64 di, .int .i64 te] 34)) := (Below.refl _ _).alloc (Nat.le_refl _) _
  have hbx0 : (w.alloc (.cells #[.int .i64 ke, .int .i64 di, .int .i64 te] 34)).heap[w.heap.size]? = some (.cells #[.int .i64 ke, .int .i64 di, .int .i64 te] 34 (0, 0)) := heap_alloc_new w _
  have hsx : (w.alloc (.cells #[.int .i64 ke, .int .i64 di, .int .i64 te] 34)).heap.size = w.heap.size + 1 := by simp
  obtain ⟨a, ha0, haa⟩ : ∃ a : Int, 0 ≤ a ∧ ((at0 < 0 ∧ a = 0) ∨ (0 ≤ at0 ∧ a = at0)) := by
    by_cases e : at0 < 0
    · exact ⟨0, by omega, .inl ⟨e, rfl⟩⟩
    · exact ⟨at0, by omega, .inr ⟨by omega, rfl⟩⟩
  go_enter Try.func7, Try.ntmps7
  go_wp2_with fail
  refine (shown_any _).mono ?_
  rintro e w1 ⟨rfl, b1⟩
  have B1 : Below w.heap.size w w1 := b0.trans (b1.mono (by rw [hsx]; omega))
  have hbx1 := (b1.block w.heap.size (by rw [hsx]; omega)).trans hbx0
  have hs1 : w.heap.size + 1 ≤ w1.heap.size := by have := b1.size; omega
  clear b0 b1 hbx0 hsx
  go_wp2_with fail
  refine (new_any w1).mono ?_
  rintro e w2 ⟨rfl, hw2⟩
  have b12 : Below w1.heap.size w1 w2 := by rw [hw2]; exact (Below.refl _ _).alloc (Nat.le_refl _) _
  have s2 : w2.heap.size = w1.heap.size + 1 := by rw [hw2]; simp
  have k2 : Dk w2 w1.heap.size (.map none) (.map none) (.slice none 0 0) 0 0 false false := by rw [hw2]; exact heap_alloc_new w1 _
  clear hw2
  have B2 : Below w.heap.size w w2 := B1.trans (b12.mono B1.size)
  have hbx2 := (b12.block w.heap.size (by omega)).trans hbx1
  go_wp2_with fail
  refine (new_any w2).mono ?_
  rintro e w3 ⟨rfl, hw3⟩
  have b23 : Below w2.heap.size w2 w3 := by rw [hw3]; exact (Below.refl _ _).alloc (Nat.le_refl _) _
  have s3 : w3.heap.size = w2.heap.size + 1 := by rw [hw3]; simp
  have k3 : Dk w3 w2.heap.size (.map none) (.map none) (.slice none 0 0) 0 0 false false := by rw [hw3]; exact heap_alloc_new w2 _
  have k23 : Dk w3 w1.heap.size (.map none) (.map none) (.slice none 0 0) 0 0 false false := k2.same (b23.block _ (by omega))
  clear hw3
  have B3 : Below w.heap.size w w3 := B2.trans (b23.mono B2.size)
  have hbx3 := (b23.block w.heap.size (by omega)).trans hbx2
  generalize hd : w1.heap.size = d at *
  generalize hc : w2.heap.size = c at *
  have hdc : d < c := by omega
  have hc3 : c < w3.heap.size := by omega
  have hwd : w.heap.size < d := by omega
  clear b12 b23 k2 B1 B2 hbx1 hbx2 s2 s3 hs1
  have hdr := dr_new d w3 k23 w3.heap.size
  have hcut := dr_power (v := .tuple #[]) (c := a) (k := decide (0 ≤ a)) (g := false) hdr (f := 27) (args := #[.pointer (some ⟨d, 0, none⟩), .int .i64 a]) (fun now syn since hk => cutAt_any hk a)
  have hda : decide (0 ≤ a) = true := by simpa using ha0
  rw [hda] at hcut
  have HC := hide2 hcut
  clear hcut hda hdr k23
  have hneg2 := ha0
  rcases haa with ⟨hneg, rfl⟩ | ⟨hneg, ha⟩
  · clear hneg2
    have hneg3 := hneg
    go_wp2_with fail
    refine HC.out.mono ?_
    rintro e w4 ⟨rfl, r4, F4⟩
    have hnd : ¬ FD w3.heap.size d c := by rintro (e | e) <;> omega
    have k4 := k3.same (F4.block c (by omega) hnd)
    have hbx4 := (F4.block w.heap.size (by omega) (by rintro (e | e) <;> omega)).trans hbx3
    have B4 : Below w.heap.size w w4 := B3.trans (F4.to (fun k hk e => by rcases e with e | e <;> omega) (by omega))
    have s4 := F4.size
    have hpl := play_ds (T := ⟨PD.new, false⟩) r4 s4 ao len cap os (h.below B4) 150 (by decide) (fun o ho h0 b off e => by have := hlow.2 o ho h0 b off e; omega) (fun h0 b off e => by have := hlow.1 h0 b off e; omega)
    have HP := hide2 hpl
    clear hpl HC r4
    go_wp2_with fail
    refine HP.out.mono ?_
    rintro e w5 ⟨rfl, r5, F5⟩
    have k5 := k4.same (F5.block c (by omega) hnd)
    have hbx5 := (F5.block w.heap.size (by omega) (by rintro (e | e) <;> omega)).trans hbx4
    have B5 : Below w.heap.size w w5 := B4.trans (F5.to (fun k hk e => by rcases e with e | e <;> omega) (by omega))
    have s5 := F5.size
    have rc5 := dr_new c w5 k5 w5.heap.size
    have sc5 := h.below B5
    have hcd : c ≠ d := by omega
    clear HP F4 F5 k4 k3 hbx3 hbx4 B3 B4
    have hlen63 : (len : Int) ≤ 9223372036854775807 := by have := h.2.1; have := h.2.2.1; unfold maxLen at this; omega
    have R5 := hide2 r5
    have K5 := hide2 k5
    have BX5 := hide2 hbx5
    have BB5 := hide2 B5
    have SC5 := hide2 sc5
    have RC5 := hide2 rc5
    clear r5 k5 hbx5 B5 sc5 rc5
    go_wp2
    go_loopw [10] (fun i wr => ∃ k : Nat, k ≤ len ∧ k ≤ 150 ∧ i = .int .i64 (k : Int) ∧ DS wr w5.heap.size c (PS.play 0 false ⟨PD.new, false⟩ (os.take k)) 0 false ∧ (∀ j, j < k → (PS.play 0 false ⟨PD.new, false⟩ (os.take j)).P.n < 0) ∧ Fr (FD w5.heap.size c) w5 wr) (fun i _ => 150 - (intOf i).toNat)
    case atStart => exact ⟨0, by omega, by omega, rfl, RC5.out, fun j hj => by omega, Fr.refl _ _⟩
    case round =>
      obtain ⟨k, hk1, hk2, rfl, rc, hall, hF⟩ := hrel
      have hTg : (PS.play 0 false ⟨PD.new, false⟩ (os.take k)).gone = false := play_gone rfl _
      by_cases hgo : k < len ∧ k < 150 ∧ (PS.play 0 false ⟨PD.new, false⟩ (os.take k)).P.n < 0
      · obtain ⟨g1, g2, g3⟩ := hgo
        obtain ⟨o, ho⟩ : ∃ o, os[k]? = some o := ⟨os[k]'(by rw [h.1]; exact g1), List.getElem?_eq_getElem (by rw [h.1]; exact g1)⟩
        have scr : Sc wr ao len cap os := SC5.out.fr hF w.heap.size BB5.out.size hlow (fun j hj e => by rcases e with e | e <;> omega)
        obtain ⟨b, off, rfl, hbl, -⟩ := scr.2.2.2.2 (by omega)
        have hone := scr.one ho
        have hcut1 := cut_one b off len cap k g1 h.2.1
        have hops := dr_ops rc
        have hpl1 := play_ds rc hF.size (some ⟨b, off + k * 8, none⟩) 1 (cap - k) [o] hone 1 (by decide) (fun o' ho' h0 b' off' e => by
          have ho2 : o' = o := by simpa using ho'
          subst ho2
          have := hlow.2 o' (List.mem_of_getElem? ho) h0 b' off' e
          have := BB5.out.size
          omega) (fun h0 b' off' e => by
          cases e
          have := hlow.1 (by omega) b off rfl
          have := BB5.out.size
          omega)
        have estep : PS.play 0 false (PS.play 0 false ⟨PD.new, false⟩ (os.take k)) (List.take 1 [o]) = PS.play 0 false ⟨PD.new, false⟩ (os.take (k + 1)) := (play_snoc ⟨PD.new, false⟩ os k o ho).symm
        rw [estep] at hpl1
        have HPL := hide2 hpl1
        have hall2 : ∀ j, j < k + 1 → (PS.play 0 false ⟨PD.new, false⟩ (os.take j)).P.n < 0 := fun j hj => by
          rcases Nat.lt_or_ge j k with h1 | h1
          · exact hall j h1
          · obtain rfl : j = k := by omega
            exact g3
        have HALL := hide2 hall2
        have hi1 : (k : Int) < (len : Int) := by omega
        have hi2 : (k : Int) < 150 := by omega
        generalize hnn : (PS.play 0 false ⟨PD.new, false⟩ (os.take k)).P.n = nn at hops g3
        have HNN := hide2 hnn
        clear hpl1 estep hall hall2 hnn scr hone rc
        go_wp2_with (first
          | (go_at_call 26; refine hops.mono ?_; rintro e w' ⟨rfl, rfl⟩)
          | (go_at_call 16; refine HPL.out.mono ?_; rintro e w7 ⟨rfl, r7, F7⟩))
        go_roundw
        case rel => exact ⟨k + 1, by omega, by omega, by go_num, r7, HALL.out, hF.trans F7 (fun j e => .inl e)⟩
        case measure => simp [intOf]; omega
      · have key : (PS.play 0 true ⟨PD.new, false⟩ (os.take 150)).P = (PS.play 0 false ⟨PD.new, false⟩ (os.take k)).P := by
          have e1 := play_free (a := 0) (T := ⟨PD.new, false⟩) rfl os k hall
          have e2 : os.take 150 = os.take k ++ (os.take 150).drop k := by
            have : os.take k = (os.take 150).take k := by rw [List.take_take]; congr 1; omega
            rw [this, List.take_append_drop]
          by_cases g3 : (PS.play 0 false ⟨PD.new, false⟩ (os.take k)).P.n < 0
          · have e3 : (os.take 150).drop k = [] := by
              apply List.drop_eq_nil_of_le
              simp only [List.length_take, h.1]
              omega
            rw [e2, e3, List.append_nil, e1]
          · rw [e2, play_append, e1]
            exact play_stuck (by omega) _
        have hmost : (PS.play 0 true ⟨PD.new, false⟩ (os.take 150)).P.n ≤ 0 := play_most (by show (0 : Int) ≤ _; omega) _
        have rd := R5.out.apart K5.out hcd (hF.mono (fun j _ e => by rcases e with e | e; exact .inl e; exact .inr e))
        have hbx := (hF.block w.heap.size (by have := BB5.out.size; omega) (by rintro (e | e) <;> omega)).trans BX5.out
        have BB : Below w.heap.size w wr := BB5.out.trans (hF.to (fun j hj e => by rcases e with e | e <;> (have := BB5.out.size; omega)) BB5.out.size)
        unfold DS at rd rc
        rw [key] at rd hmost
        rw [hTg] at rc
        generalize hgd : (PS.play 0 true ⟨PD.new, false⟩ (os.take 150)).gone = gd at rd
        generalize hPP : (PS.play 0 false ⟨PD.new, false⟩ (os.take k)).P = P at rd rc hmost hgo
        have hops := dr_ops rc
        have hopsd := dr_ops rd
        have z0 : wr.cell? ⟨w.heap.size, 0, none⟩ = some (.int .i64 ke) := by rw [Go.Joins.cell_of_block hbx]; rfl
        have z1 : wr.cell? ⟨w.heap.size, 1, none⟩ = some (.int .i64 di) := by rw [Go.Joins.cell_of_block hbx]; rfl
        have z2 : wr.cell? ⟨w.heap.size, 2, none⟩ = some (.int .i64 te) := by rw [Go.Joins.cell_of_block hbx]; rfl
        have HRD := hide2 rd
        have HRC := hide2 rc
        have HBX := hide2 hbx
        have HBB := hide2 BB
        have HM := hide2 hmost
        have hmd : decide (0 < P.n) = false := by simp; omega
        clear key hall hF hTg rd rc hbx BB hgd hPP R5 K5 BX5 BB5 SC5 RC5
        generalize hPn : P.n = nn at hops hopsd hmd hgo
        have HPn := hide2 hPn
        clear hPn hmost
        have hwhich : (¬ k < len) ∨ (k < len ∧ ¬ k < 150) ∨ (k < len ∧ k < 150 ∧ ¬ nn < 0) := by omega
        clear hgo
        rcases hwhich with g1 | ⟨g1, g2⟩ | ⟨g1, g2, g3⟩
        all_goals
          go_wp2_with fail
          first
            | (go_at_call_of 26 (Value.pointer (some ⟨d, 0, none⟩)); refine hopsd.mono ?_)
            | (go_at_call_of 26 (Value.pointer (some ⟨c, 0, none⟩)); refine hops.mono ?_; rintro e w' ⟨rfl, rfl⟩; go_wp2_with fail; refine hopsd.mono ?_)
          rintro e w' ⟨rfl, rfl⟩
          go_wp2_with fail
          refine hops.mono ?_
          rintro e w' ⟨rfl, rfl⟩
          go_wp2_with fail
          refine hopsd.mono ?_
          rintro e w' ⟨rfl, rfl⟩
          go_wp2_with fail
          refine (dr_crash HRD.out ke di te).mono ?_
          rintro e v1 ⟨dx, rfl, sx1, bv1⟩
          have rd1 := HRD.out.below bv1
          have rc1 := HRC.out.below bv1
          have BB1 := HBB.out.trans (bv1.mono HBB.out.size)
          have hwl : w.heap.size < w'.heap.size := (Array.getElem?_eq_some_iff.1 HBX.out).1
          have hbx1 := (bv1.block w.heap.size hwl).trans HBX.out
          have y0 : v1.cell? ⟨w.heap.size, 0, none⟩ = some (.int .i64 ke) := by rw [Go.Joins.cell_of_block hbx1]; rfl
          have y1 : v1.cell? ⟨w.heap.size, 1, none⟩ = some (.int .i64 di) := by rw [Go.Joins.cell_of_block hbx1]; rfl
          have y2 : v1.cell? ⟨w.heap.size, 2, none⟩ = some (.int .i64 te) := by rw [Go.Joins.cell_of_block hbx1]; rfl
          clear HRD HRC HBX HBB hbx1 z0 z1 z2 bv1
          go_wp2_with fail
          refine (dr_crash rc1 ke di te).mono ?_
          rintro e v2 ⟨dy, rfl, sy2, bv2⟩
          have rd2 := rd1.below bv2
          have BB2 := BB1.trans (bv2.mono BB1.size)
          have sx2 := sx1.below bv2
          clear rd1 rc1 BB1 sx1 y0 y1 y2 bv2
          go_wp2_with fail
          refine (pseen_names sx2).mono ?_
          rintro e v3 ⟨la, nl, ca, La, rfl, cLa, hLa, stA3, memA, bv3⟩
          have rd3 := rd2.below bv3
          have BB3 := BB2.trans (bv3.mono BB2.size)
          have sx3 := sx2.below bv3
          have sy3 := sy2.below bv3
          clear rd2 BB2 sx2 sy2 bv3
          go_wp2_with fail
          refine (pseen_names sy3).mono ?_
          rintro e v4 ⟨lb, nl', cb, Lb, rfl, cLb, hLb, stB4, memB, bv4⟩
          have rd4 := rd3.below bv4
          have BB4 := BB3.trans (bv4.mono BB3.size)
          have sx4 := sx3.below bv4
          have sy4 := sy3.below bv4
          have stA4 := stA3.below bv4
          have hAB : nm Lb = nm La := nm_eq cLb cLa (fun k => (hLb k).trans (hLa k).symm)
          rw [hAB] at stB4
          obtain rfl : nl' = nl := by rw [← stB4.1, stA4.1]
          clear rd3 BB3 sx3 sy3 stA3 bv4 hAB cLa cLb hLa hLb memB
          go_wp2_with fail
          refine (same_any stA4 stB4).mono ?_
          rintro e v5 ⟨rfl, q, rfl⟩
          have b8 : Below v4.heap.size v4 (v4.drewN q) := ⟨rfl, rfl, rfl, Nat.le_refl _, fun _ _ => rfl⟩
          have rd5 := rd4.below b8
          have BB6 := BB4.trans (b8.mono BB4.size)
          have sx5 := sx4.below b8
          have sy5 := sy4.below b8
          have stA5 := stA4.below b8
          generalize v4.drewN q = v5 at rd5 BB6 sx5 sy5 stA5 ⊢
          clear rd4 BB4 sx4 sy4 stA4 stB4 b8
          have hnl : (nl' : Int) ≤ 9223372036854775807 := by have := stA5.2.1; have := stA5.2.2.1; unfold maxLen at this; omega
          go_wp2
          go_loopw [15, 14] (fun i t wr => ∃ k : Nat, k ≤ nl' ∧ i = .int .i64 (k : Int) ∧ t = .bool true ∧ PSeen wr dx P ke di te ∧ PSeen wr dy P ke di te ∧ DR wr w3.heap.size d P 0 true gd ∧ St wr la nl' ca (nm La) ∧ Below w.heap.size w wr) (fun i _ _ => nl' - (intOf i).toNat)
          case atStart => exact ⟨0, by omega, rfl, rfl, sx5, sy5, rd5, stA5, BB6⟩
          case round =>
            obtain ⟨k2, hk2, rfl, rfl, sx6, sy6, rd6, st6, B6⟩ := hrel
            clear sx5 sy5 rd5 stA5 BB6
            by_cases hlt : k2 < nl'
            · obtain ⟨g, off, rfl, hgl, hcc⟩ := st6.2.2.2.2 (by omega)
              have ck := hcc k2 hlt
              have hmem : (nm La).getD k2 ByteArray.empty ∈ nm La := by
                rw [List.getD, List.getElem?_eq_getElem (by rw [st6.1]; exact hlt)]
                exact List.getElem_mem _
              generalize (nm La).getD k2 ByteArray.empty = s at ck hmem
              obtain ⟨i, hi⟩ := Option.isSome_iff_exists.1 (memA s hmem)
              have ra := pseen_read sx6 s hi
              have hi1 : (k2 : Int) < (nl' : Int) := by omega
              clear hcc hops hopsd
              go_wp2_with fail
              refine ra.mono ?_
              rintro e u1 ⟨a1, l1, c1, rfl, slx, bu1⟩
              have sy7 := sy6.below bu1
              have ck1 : u1.cell? ⟨g, off + k2, none⟩ = some (.string s) := (bu1.cell (p := ⟨g, off + k2, none⟩) hgl).trans ck
              have rb := pseen_read sy7 s hi
              have HSX := hide2 (sx6.below bu1)
              have HR := hide2 (rd6.below bu1)
              have HST := hide2 (st6.below bu1)
              have HB := hide2 (B6.trans (bu1.mono B6.size))
              have HSY := hide2 sy7
              clear ra sx6 sy6 rd6 st6 B6 bu1 ck sy7
              go_wp2_with fail
              refine rb.mono ?_
              rintro e u2 ⟨a2, l2, c2, rfl, sly, bu2⟩
              have slx2 := slx.below bu2
              have hx := slx2.str (P := Try.prog) 32 Try.underlying32 Try.underlying5 Try.underlying9
              have hy := sly.str (P := Try.prog) 32 Try.underlying32 Try.underlying5 Try.underlying9
              have HSX2 := hide2 (HSX.out.below bu2)
              have HSY2 := hide2 (HSY.out.below bu2)
              have HR2 := hide2 (HR.out.below bu2)
              have HST2 := hide2 (HST.out.below bu2)
              have HB2 := hide2 (HB.out.trans (bu2.mono HB.out.size))
              have hee : ((strOfNums (leftOf ke te (P.at i))).toList == (strOfNums (leftOf ke te (P.at i))).toList) = true := by simp
              clear rb HSX HSY HR HST HB bu2 slx sly slx2 ck1 hi
              go_wp2
              go_roundw
              case rel => exact ⟨k2 + 1, by omega, by go_num, by simp, HSX2.out, HSY2.out, HR2.out, HST2.out, HB2.out⟩
              case measure => simp [intOf]; omega
            · have hops6 := dr_ops rd6
              rw [HPn.out] at hops6
              clear sx6 sy6 st6 memA hops hopsd
              by_cases hna : nn < 0
              · go_wp2_with fail
                refine hops6.mono ?_
                rintro e w' ⟨rfl, rfl⟩
                clear hops6
                go_wp2
                go_ret
                exact ⟨rfl, B6⟩
              · have hne : nn = 0 := by have := HM.out; have := HPn.out; omega
                have hoff : Off P.n 0 true gd := .inr ⟨rfl, by have := HPn.out; omega⟩
                have HO := hide2 hoff
                have hap := dr_power (v := .int .i64 24) (c := 0) (k := true) (g := true) rd6 (f := 18) (args := #[.pointer (some ⟨d, 0, none⟩), .string ⟨#[120]⟩, .slice none 0 0]) (fun now syn since hk => append_off hk hoff _ _)
                have HAP := hide2 hap
                have hd0 : decide (nn < 0) = false := by simpa using hna
                have HNE := hide2 hne
                clear hap rd6 hoff hne
                go_wp2_with fail
                refine hops6.mono ?_
                rintro e w' ⟨rfl, rfl⟩
                clear hops6
                go_wp2_with fail
                refine HAP.out.mono ?_
                rintro e x1 ⟨rfl, rx1, Fx1⟩
                have Bx1 := B6.trans (Fx1.to (fun j hj e => by rcases e with e | e <;> omega) B6.size)
                obtain ⟨now, syn, since, hdk⟩ := rx1.dk
                have hrd := read_off hdk ⟨#[120]⟩
                have hsd := dr_power (v := .int .i64 24) (c := 0) (k := true) (g := true) rx1 (f := 20) (args := #[.pointer (some ⟨d, 0, none⟩)]) (fun now syn since hk => syncDir_off hk (.inl rfl))
                have HSD := hide2 hsd
                clear hsd HAP hdk Fx1 B6
                go_wp2_with fail
                refine hrd.mono ?_
                rintro e x2 ⟨rfl, rfl⟩
                clear hrd
                go_wp2_with fail
                refine HSD.out.mono ?_
                rintro e x3 ⟨rfl, rx3, Fx3⟩
                have Bx3 := Bx1.trans (Fx3.to (fun j hj e => by rcases e with e | e <;> omega) Bx1.size)
                have hops7 := dr_ops rx3
                rw [HPn.out, HNE.out] at hops7
                clear HSD rx1 rx3 Fx3 Bx1
                go_wp2_with fail
                refine hops7.mono ?_
                rintro e w' ⟨rfl, rfl⟩
                clear hops7
                go_wp2
                go_ret
                exact ⟨rfl, Bx3⟩
  · subst ha
    clear hneg2
    have hneg3 := hneg
    go_wp2_with fail
    refine HC.out.mono ?_
    rintro e w4 ⟨rfl, r4, F4⟩
    have hnd : ¬ FD w3.heap.size d c := by rintro (e | e) <;> omega
    have k4 := k3.same (F4.block c (by omega) hnd)
    have hbx4 := (F4.block w.heap.size (by omega) (by rintro (e | e) <;> omega)).trans hbx3
    have B4 : Below w.heap.size w w4 := B3.trans (F4.to (fun k hk e => by rcases e with e | e <;> omega) (by omega))
    have s4 := F4.size
    have hpl := play_ds (T := ⟨PD.new, false⟩) r4 s4 ao len cap os (h.below B4) 150 (by decide) (fun o ho h0 b off e => by have := hlow.2 o ho h0 b off e; omega) (fun h0 b off e => by have := hlow.1 h0 b off e; omega)
    have HP := hide2 hpl
    clear hpl HC r4
    go_wp2_with fail
    refine HP.out.mono ?_
    rintro e w5 ⟨rfl, r5, F5⟩
    have k5 := k4.same (F5.block c (by omega) hnd)
    have hbx5 := (F5.block w.heap.size (by omega) (by rintro (e | e) <;> omega)).trans hbx4
    have B5 : Below w.heap.size w w5 := B4.trans (F5.to (fun k hk e => by rcases e with e | e <;> omega) (by omega))
    have s5 := F5.size
    have rc5 := dr_new c w5 k5 w5.heap.size
    have sc5 := h.below B5
    have hcd : c ≠ d := by omega
    clear HP F4 F5 k4 k3 hbx3 hbx4 B3 B4
    have hlen63 : (len : Int) ≤ 9223372036854775807 := by have := h.2.1; have := h.2.2.1; unfold maxLen at this; omega
    have R5 := hide2 r5
    have K5 := hide2 k5
    have BX5 := hide2 hbx5
    have BB5 := hide2 B5
    have SC5 := hide2 sc5
    have RC5 := hide2 rc5
    clear r5 k5 hbx5 B5 sc5 rc5
    go_wp2
    go_loopw [10] (fun i wr => ∃ k : Nat, k ≤ len ∧ k ≤ 150 ∧ i = .int .i64 (k : Int) ∧ DS wr w5.heap.size c (PS.play 0 false ⟨PD.new, false⟩ (os.take k)) 0 false ∧ (∀ j, j < k → (PS.play 0 false ⟨PD.new, false⟩ (os.take j)).P.n < a) ∧ Fr (FD w5.heap.size c) w5 wr) (fun i _ => 150 - (intOf i).toNat)
    case atStart => exact ⟨0, by omega, by omega, rfl, RC5.out, fun j hj => by omega, Fr.refl _ _⟩
    case round =>
      obtain ⟨k, hk1, hk2, rfl, rc, hall, hF⟩ := hrel
      have hTg : (PS.play 0 false ⟨PD.new, false⟩ (os.take k)).gone = false := play_gone rfl _
      by_cases hgo : k < len ∧ k < 150 ∧ (PS.play 0 false ⟨PD.new, false⟩ (os.take k)).P.n < a
      · obtain ⟨g1, g2, g3⟩ := hgo
        obtain ⟨o, ho⟩ : ∃ o, os[k]? = some o := ⟨os[k]'(by rw [h.1]; exact g1), List.getElem?_eq_getElem (by rw [h.1]; exact g1)⟩
        have scr : Sc wr ao len cap os := SC5.out.fr hF w.heap.size BB5.out.size hlow (fun j hj e => by rcases e with e | e <;> omega)
        obtain ⟨b, off, rfl, hbl, -⟩ := scr.2.2.2.2 (by omega)
        have hone := scr.one ho
        have hcut1 := cut_one b off len cap k g1 h.2.1
        have hops := dr_ops rc
        have hpl1 := play_ds rc hF.size (some ⟨b, off + k * 8, none⟩) 1 (cap - k) [o] hone 1 (by decide) (fun o' ho' h0 b' off' e => by
          have ho2 : o' = o := by simpa using ho'
          subst ho2
          have := hlow.2 o' (List.mem_of_getElem? ho) h0 b' off' e
          have := BB5.out.size
          omega) (fun h0 b' off' e => by
          cases e
          have := hlow.1 (by omega) b off rfl
          have := BB5.out.size
          omega)
        have estep : PS.play 0 false (PS.play 0 false ⟨PD.new, false⟩ (os.take k)) (List.take 1 [o]) = PS.play 0 false ⟨PD.new, false⟩ (os.take (k + 1)) := (play_snoc ⟨PD.new, false⟩ os k o ho).symm
        rw [estep] at hpl1
        have HPL := hide2 hpl1
        have hall2 : ∀ j, j < k + 1 → (PS.play 0 false ⟨PD.new, false⟩ (os.take j)).P.n < a := fun j hj => by
          rcases Nat.lt_or_ge j k with h1 | h1
          · exact hall j h1
          · obtain rfl : j = k := by omega
            exact g3
        have HALL := hide2 hall2
        have hi1 : (k : Int) < (len : Int) := by omega
        have hi2 : (k : Int) < 150 := by omega
        generalize hnn : (PS.play 0 false ⟨PD.new, false⟩ (os.take k)).P.n = nn at hops g3
        have HNN := hide2 hnn
        clear hpl1 estep hall hall2 hnn scr hone rc
        go_wp2_with (first
          | (go_at_call 26; refine hops.mono ?_; rintro e w' ⟨rfl, rfl⟩)
          | (go_at_call 16; refine HPL.out.mono ?_; rintro e w7 ⟨rfl, r7, F7⟩))
        go_roundw
        case rel => exact ⟨k + 1, by omega, by omega, by go_num, r7, HALL.out, hF.trans F7 (fun j e => .inl e)⟩
        case measure => simp [intOf]; omega
      · have key : (PS.play a true ⟨PD.new, false⟩ (os.take 150)).P = (PS.play 0 false ⟨PD.new, false⟩ (os.take k)).P := by
          have e1 := play_free (a := a) (T := ⟨PD.new, false⟩) rfl os k hall
          have e2 : os.take 150 = os.take k ++ (os.take 150).drop k := by
            have : os.take k = (os.take 150).take k := by rw [List.take_take]; congr 1; omega
            rw [this, List.take_append_drop]
          by_cases g3 : (PS.play 0 false ⟨PD.new, false⟩ (os.take k)).P.n < a
          · have e3 : (os.take 150).drop k = [] := by
              apply List.drop_eq_nil_of_le
              simp only [List.length_take, h.1]
              omega
            rw [e2, e3, List.append_nil, e1]
          · rw [e2, play_append, e1]
            exact play_stuck (by omega) _
        have hmost : (PS.play a true ⟨PD.new, false⟩ (os.take 150)).P.n ≤ a := play_most (by show (0 : Int) ≤ _; omega) _
        have rd := R5.out.apart K5.out hcd (hF.mono (fun j _ e => by rcases e with e | e; exact .inl e; exact .inr e))
        have hbx := (hF.block w.heap.size (by have := BB5.out.size; omega) (by rintro (e | e) <;> omega)).trans BX5.out
        have BB : Below w.heap.size w wr := BB5.out.trans (hF.to (fun j hj e => by rcases e with e | e <;> (have := BB5.out.size; omega)) BB5.out.size)
        unfold DS at rd rc
        rw [key] at rd hmost
        rw [hTg] at rc
        generalize hgd : (PS.play a true ⟨PD.new, false⟩ (os.take 150)).gone = gd at rd
        generalize hPP : (PS.play 0 false ⟨PD.new, false⟩ (os.take k)).P = P at rd rc hmost hgo
        have hops := dr_ops rc
        have hopsd := dr_ops rd
        have z0 : wr.cell? ⟨w.heap.size, 0, none⟩ = some (.int .i64 ke) := by rw [Go.Joins.cell_of_block hbx]; rfl
        have z1 : wr.cell? ⟨w.heap.size, 1, none⟩ = some (.int .i64 di) := by rw [Go.Joins.cell_of_block hbx]; rfl
        have z2 : wr.cell? ⟨w.heap.size, 2, none⟩ = some (.int .i64 te) := by rw [Go.Joins.cell_of_block hbx]; rfl
        have HRD := hide2 rd
        have HRC := hide2 rc
        have HBX := hide2 hbx
        have HBB := hide2 BB
        have HM := hide2 hmost
        have hmd : decide (a < P.n) = false := by simp; omega
        clear key hall hF hTg rd rc hbx BB hgd hPP R5 K5 BX5 BB5 SC5 RC5
        generalize hPn : P.n = nn at hops hopsd hmd hgo
        have HPn := hide2 hPn
        clear hPn hmost
        have hwhich : (¬ k < len) ∨ (k < len ∧ ¬ k < 150) ∨ (k < len ∧ k < 150 ∧ ¬ nn < a) := by omega
        clear hgo
        rcases hwhich with g1 | ⟨g1, g2⟩ | ⟨g1, g2, g3⟩
        all_goals
          go_wp2_with fail
          first
            | (go_at_call_of 26 (Value.pointer (some ⟨d, 0, none⟩)); refine hopsd.mono ?_)
            | (go_at_call_of 26 (Value.pointer (some ⟨c, 0, none⟩)); refine hops.mono ?_; rintro e w' ⟨rfl, rfl⟩; go_wp2_with fail; refine hopsd.mono ?_)
          rintro e w' ⟨rfl, rfl⟩
          go_wp2_with fail
          refine hops.mono ?_
          rintro e w' ⟨rfl, rfl⟩
          go_wp2_with fail
          refine hopsd.mono ?_
          rintro e w' ⟨rfl, rfl⟩
          go_wp2_with fail
          refine (dr_crash HRD.out ke di te).mono ?_
          rintro e v1 ⟨dx, rfl, sx1, bv1⟩
          have rd1 := HRD.out.below bv1
          have rc1 := HRC.out.below bv1
          have BB1 := HBB.out.trans (bv1.mono HBB.out.size)
          have hwl : w.heap.size < w'.heap.size := (Array.getElem?_eq_some_iff.1 HBX.out).1
          have hbx1 := (bv1.block w.heap.size hwl).trans HBX.out
          have y0 : v1.cell? ⟨w.heap.size, 0, none⟩ = some (.int .i64 ke) := by rw [Go.Joins.cell_of_block hbx1]; rfl
          have y1 : v1.cell? ⟨w.heap.size, 1, none⟩ = some (.int .i64 di) := by rw [Go.Joins.cell_of_block hbx1]; rfl
          have y2 : v1.cell? ⟨w.heap.size, 2, none⟩ = some (.int .i64 te) := by rw [Go.Joins.cell_of_block hbx1]; rfl
          clear HRD HRC HBX HBB hbx1 z0 z1 z2 bv1
          go_wp2_with fail
          refine (dr_crash rc1 ke di te).mono ?_
          rintro e v2 ⟨dy, rfl, sy2, bv2⟩
          have rd2 := rd1.below bv2
          have BB2 := BB1.trans (bv2.mono BB1.size)
          have sx2 := sx1.below bv2
          clear rd1 rc1 BB1 sx1 y0 y1 y2 bv2
          go_wp2_with fail
          refine (pseen_names sx2).mono ?_
          rintro e v3 ⟨la, nl, ca, La, rfl, cLa, hLa, stA3, memA, bv3⟩
          have rd3 := rd2.below bv3
          have BB3 := BB2.trans (bv3.mono BB2.size)
          have sx3 := sx2.below bv3
          have sy3 := sy2.below bv3
          clear rd2 BB2 sx2 sy2 bv3
          go_wp2_with fail
          refine (pseen_names sy3).mono ?_
          rintro e v4 ⟨lb, nl', cb, Lb, rfl, cLb, hLb, stB4, memB, bv4⟩
          have rd4 := rd3.below bv4
          have BB4 := BB3.trans (bv4.mono BB3.size)
          have sx4 := sx3.below bv4
          have sy4 := sy3.below bv4
          have stA4 := stA3.below bv4
          have hAB : nm Lb = nm La := nm_eq cLb cLa (fun k => (hLb k).trans (hLa k).symm)
          rw [hAB] at stB4
          obtain rfl : nl' = nl := by rw [← stB4.1, stA4.1]
          clear rd3 BB3 sx3 sy3 stA3 bv4 hAB cLa cLb hLa hLb memB
          go_wp2_with fail
          refine (same_any stA4 stB4).mono ?_
          rintro e v5 ⟨rfl, q, rfl⟩
          have b8 : Below v4.heap.size v4 (v4.drewN q) := ⟨rfl, rfl, rfl, Nat.le_refl _, fun _ _ => rfl⟩
          have rd5 := rd4.below b8
          have BB6 := BB4.trans (b8.mono BB4.size)
          have sx5 := sx4.below b8
          have sy5 := sy4.below b8
          have stA5 := stA4.below b8
          generalize v4.drewN q = v5 at rd5 BB6 sx5 sy5 stA5 ⊢
          clear rd4 BB4 sx4 sy4 stA4 stB4 b8
          have hnl : (nl' : Int) ≤ 9223372036854775807 := by have := stA5.2.1; have := stA5.2.2.1; unfold maxLen at this; omega
          go_wp2
          go_loopw [15, 14] (fun i t wr => ∃ k : Nat, k ≤ nl' ∧ i = .int .i64 (k : Int) ∧ t = .bool true ∧ PSeen wr dx P ke di te ∧ PSeen wr dy P ke di te ∧ DR wr w3.heap.size d P a true gd ∧ St wr la nl' ca (nm La) ∧ Below w.heap.size w wr) (fun i _ _ => nl' - (intOf i).toNat)
          case atStart => exact ⟨0, by omega, rfl, rfl, sx5, sy5, rd5, stA5, BB6⟩
          case round =>
            obtain ⟨k2, hk2, rfl, rfl, sx6, sy6, rd6, st6, B6⟩ := hrel
            clear sx5 sy5 rd5 stA5 BB6
            by_cases hlt : k2 < nl'
            · obtain ⟨g, off, rfl, hgl, hcc⟩ := st6.2.2.2.2 (by omega)
              have ck := hcc k2 hlt
              have hmem : (nm La).getD k2 ByteArray.empty ∈ nm La := by
                rw [List.getD, List.getElem?_eq_getElem (by rw [st6.1]; exact hlt)]
                exact List.getElem_mem _
              generalize (nm La).getD k2 ByteArray.empty = s at ck hmem
              obtain ⟨i, hi⟩ := Option.isSome_iff_exists.1 (memA s hmem)
              have ra := pseen_read sx6 s hi
              have hi1 : (k2 : Int) < (nl' : Int) := by omega
              clear hcc hops hopsd
              go_wp2_with fail
              refine ra.mono ?_
              rintro e u1 ⟨a1, l1, c1, rfl, slx, bu1⟩
              have sy7 := sy6.below bu1
              have ck1 : u1.cell? ⟨g, off + k2, none⟩ = some (.string s) := (bu1.cell (p := ⟨g, off + k2, none⟩) hgl).trans ck
              have rb := pseen_read sy7 s hi
              have HSX := hide2 (sx6.below bu1)
              have HR := hide2 (rd6.below bu1)
              have HST := hide2 (st6.below bu1)
              have HB := hide2 (B6.trans (bu1.mono B6.size))
              have HSY := hide2 sy7
              clear ra sx6 sy6 rd6 st6 B6 bu1 ck sy7
              go_wp2_with fail
              refine rb.mono ?_
              rintro e u2 ⟨a2, l2, c2, rfl, sly, bu2⟩
              have slx2 := slx.below bu2
              have hx := slx2.str (P := Try.prog) 32 Try.underlying32 Try.underlying5 Try.underlying9
              have hy := sly.str (P := Try.prog) 32 Try.underlying32 Try.underlying5 Try.underlying9
              have HSX2 := hide2 (HSX.out.below bu2)
              have HSY2 := hide2 (HSY.out.below bu2)
              have HR2 := hide2 (HR.out.below bu2)
              have HST2 := hide2 (HST.out.below bu2)
              have HB2 := hide2 (HB.out.trans (bu2.mono HB.out.size))
              have hee : ((strOfNums (leftOf ke te (P.at i))).toList == (strOfNums (leftOf ke te (P.at i))).toList) = true := by simp
              clear rb HSX HSY HR HST HB bu2 slx sly slx2 ck1 hi
              go_wp2
              go_roundw
              case rel => exact ⟨k2 + 1, by omega, by go_num, by simp, HSX2.out, HSY2.out, HR2.out, HST2.out, HB2.out⟩
              case measure => simp [intOf]; omega
            · have hops6 := dr_ops rd6
              rw [HPn.out] at hops6
              clear sx6 sy6 st6 memA hops hopsd
              by_cases hna : nn < a
              · go_wp2_with fail
                refine hops6.mono ?_
                rintro e w' ⟨rfl, rfl⟩
                clear hops6
                go_wp2
                go_ret
                exact ⟨rfl, B6⟩
              · have hne : nn = a := by have := HM.out; have := HPn.out; omega
                have hoff : Off P.n a true gd := .inr ⟨rfl, by have := HPn.out; omega⟩
                have HO := hide2 hoff
                have hap := dr_power (v := .int .i64 24) (c := a) (k := true) (g := true) rd6 (f := 18) (args := #[.pointer (some ⟨d, 0, none⟩), .string ⟨#[120]⟩, .slice none 0 0]) (fun now syn since hk => append_off hk hoff _ _)
                have HAP := hide2 hap
                have hd0 : decide (nn < a) = false := by simpa using hna
                have HNE := hide2 hne
                clear hap rd6 hoff hne
                go_wp2_with fail
                refine hops6.mono ?_
                rintro e w' ⟨rfl, rfl⟩
                clear hops6
                go_wp2_with fail
                refine HAP.out.mono ?_
                rintro e x1 ⟨rfl, rx1, Fx1⟩
                have Bx1 := B6.trans (Fx1.to (fun j hj e => by rcases e with e | e <;> omega) B6.size)
                obtain ⟨now, syn, since, hdk⟩ := rx1.dk
                have hrd := read_off hdk ⟨#[120]⟩
                have hsd := dr_power (v := .int .i64 24) (c := a) (k := true) (g := true) rx1 (f := 20) (args := #[.pointer (some ⟨d, 0, none⟩)]) (fun now syn since hk => syncDir_off hk (.inl rfl))
                have HSD := hide2 hsd
                clear hsd HAP hdk Fx1 B6
                go_wp2_with fail
                refine hrd.mono ?_
                rintro e x2 ⟨rfl, rfl⟩
                clear hrd
                go_wp2_with fail
                refine HSD.out.mono ?_
                rintro e x3 ⟨rfl, rx3, Fx3⟩
                have Bx3 := Bx1.trans (Fx3.to (fun j hj e => by rcases e with e | e <;> omega) Bx1.size)
                have hops7 := dr_ops rx3
                rw [HPn.out, HNE.out] at hops7
                clear HSD rx1 rx3 Fx3 Bx1
                go_wp2_with fail
                refine hops7.mono ?_
                rintro e w' ⟨rfl, rfl⟩
                clear hops7
                go_wp2
                go_ret
                exact ⟨rfl, Bx3⟩
end Go.Proofs.Ytgckkjkbjabgfaa
