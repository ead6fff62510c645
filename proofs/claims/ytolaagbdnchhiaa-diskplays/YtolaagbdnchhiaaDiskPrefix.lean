/-
  The walk of the law DiskPrefix.
-/
import Derived.Test.YtolaagbdnchhiaaSee
import Derived.Test.YtolaagbdnchhiaaShownD
set_option linter.unusedVariables false
set_option linter.unusedSimpArgs false
namespace Go.Proofs.Ytolaagbdnchhiaa
open Go.RowKit Go.Maps Go.Sort

/-- The disk that begins. -/
def AD.new : AD := ⟨.nil, .nil, [], fun _ => none, 0, 0, false, false⟩
theorem AD.new_ok : AD.new.ok := by
  refine ⟨by decide, by decide, by decide, .inl rfl, .inl rfl, by decide, by decide, rfl, fun k hk => ?_⟩
  have : AD.new.chs.take k = [] := by cases k <;> rfl
  rw [this]
  exact fine_empty _
theorem new_rep {w : World} {d : Nat} (h : Dk w d (.map none) (.map none) (.slice none 0 0) 0 0 false false) (B : Nat) : Rep w B d AD.new :=
  ⟨none, none, .slice none 0 0, [], fun _ => .nilFunc, ⟨h, .inl ⟨rfl, rfl⟩, .inl ⟨rfl, rfl⟩, (fun j e => by cases e), (fun j e => by cases e), (fun j e => by cases e), World.ownsRow_nil _ _ _ _, (fun i ch hi => by cases hi), ⟨(fun f x hf => by cases hf), (fun f g x y j hf => by cases hf)⟩⟩⟩

theorem Sc.below {w w' : World} {ao : Option Addr} {len cap : Nat} {os : List OpR} (h : Sc w ao len cap os) (hb : Below w.heap.size w w') : Sc w' ao len cap os := by
  obtain ⟨h1, h2, h3, h4, h5⟩ := h
  refine ⟨h1, h2, h3, fun o ho => ⟨(h4 o ho).lo, (h4 o ho).hi, (h4 o ho).nam, (h4 o ho).tos, (h4 o ho).sl.below hb⟩, fun hl => ?_⟩
  obtain ⟨b, off, e, hlt, hc⟩ := h5 hl
  exact ⟨b, off, e, Nat.lt_of_lt_of_le hlt hb.size, fun i o hi j u hu => (hb.cell (p := ⟨b, off + i * 8 + j, none⟩) hlt).trans (hc i o hi j u hu)⟩

/-- All that a script reads lies in memory. -/
theorem Sc.low {w : World} {ao : Option Addr} {len cap : Nat} {os : List OpR} (h : Sc w ao len cap os) : (0 < len → ∀ b off, ao = some ⟨b, off, none⟩ → b < w.heap.size) ∧ ∀ o ∈ os, 0 < o.bl → ∀ b off, o.bo = some ⟨b, off, none⟩ → b < w.heap.size := by
  refine ⟨fun h0 b off e => ?_, fun o ho h0 b off e => ?_⟩
  · obtain ⟨b', off', e', hl, _⟩ := h.2.2.2.2 h0
    rw [e] at e'
    cases e'
    exact hl
  · obtain ⟨b', off', e', hl, _⟩ := (h.2.2.2.1 o ho).sl.2.2.2.2.2 h0
    rw [e] at e'
    cases e'
    exact hl

theorem crashDir_all {S : AD} (ok : S.ok) : S.crashDir 65536 = dn S.now := by
  unfold AD.crashDir
  have h1 := ok.few
  have h2 := ok.hi
  have e : shr 65536 S.chs.length = S.chs.length := by unfold shr; omega
  rw [e, List.take_length]
  exact ok.road

theorem crash_name {S : AD} (ok : S.ok) (di : Int) {s : ByteArray} (h : Maps.has (S.crashDir di) (kl s) = true) : ∃ f x, (∀ z, (S.crashDir di).atKey (kl s) z = pt f) ∧ S.fil f = some x ∧ isName s = true :=
  ok.fine _ (shr_le di S.chs.length) s h

theorem rep_fil {w : World} {B d : Nat} {S : AD} (h : Rep w B d S) {f : Nat} {x : List Int × Nat} (hf : S.fil f = some x) : Byt x.1 ∧ x.2 ≤ x.1.length ∧ x.1.length ≤ 262144 := by
  obtain ⟨nb, sb, sv, cs, vf, M⟩ := h
  obtain ⟨_, _, g3, g4, g5, _⟩ := M.fils.1 f x hf
  exact ⟨g3, g4, g5⟩

set_option maxHeartbeats 8000000 in
set_option maxRecDepth 100000 in
theorem prefix_walk (ao : Option Addr) (len cap : Nat) (os : List OpR) (less more dirs : Int) (w : World) (h : Sc w ao len cap os) :
    Calls Try.prog 6 #[.slice ao len cap, .int .i64 less, .int .i64 more, .int .i64 dirs] w fun e w' => e = .returned (.bool true) ∧ Below w.heap.size w w' := by
  have hlow := h.low
  obtain ⟨lo, hi, hlh, hmm⟩ : ∃ lo hi : Int, lo ≤ hi ∧ ((less ≤ more ∧ lo = less ∧ hi = more) ∨ (more < less ∧ lo = more ∧ hi = less)) := by
    by_cases e : less ≤ more
    · exact ⟨less, more, e, .inl ⟨e, rfl, rfl⟩⟩
    · exact ⟨more, less, by omega, .inr ⟨by omega, rfl, rfl⟩⟩
  go_enter Try.func6, Try.ntmps6
  go_wp2_with fail
  refine (shown_any w).mono ?_
  rintro e w1 ⟨rfl, b1⟩
  go_wp2_with fail
  refine (new_any w1).mono ?_
  rintro e w2 ⟨rfl, hw2⟩
  have b12 : Below w1.heap.size w1 w2 := by rw [hw2]; exact (Below.refl _ _).alloc (Nat.le_refl _) _
  have s2 : w2.heap.size = w1.heap.size + 1 := by rw [hw2]; simp
  have k2 : Dk w2 w1.heap.size (.map none) (.map none) (.slice none 0 0) 0 0 false false := by rw [hw2]; exact heap_alloc_new w1 _
  clear hw2
  have B2 : Below w.heap.size w w2 := b1.trans (b12.mono b1.size)
  have hs1 := b1.size
  obtain ⟨d, hd⟩ : ∃ d, d = w1.heap.size := ⟨_, rfl⟩
  rw [← hd] at k2 s2 hs1 ⊢
  have hpl := play_any (B := w2.heap.size) (new_rep k2 _) AD.new_ok ⟨rfl, rfl⟩ (Nat.le_refl _) ao len cap os (h.below B2) 100 (by decide) (fun o ho h0 b off e => by have := hlow.2 o ho h0 b off e; omega) (fun h0 b off e => by have := hlow.1 h0 b off e; omega)
  clear hd b12 b1 k2
  go_wp2_with fail
  refine hpl.mono ?_
  rintro e w3 ⟨rfl, S, r3, ok, pl, F3⟩
  have B3 : Below w.heap.size w w3 := B2.trans (F3.to (fun k hk e => by
    rcases e with e | e
    · omega
    · omega) (by omega))
  clear hpl F3 B2 h hlow
  have hszA : ∀ s, Maps.has (S.crashDir dirs) (kl s) = true → s.size ≤ maxLen := fun s hs => by
    obtain ⟨_, _, _, _, hn⟩ := crash_name ok dirs hs
    have := isName_size hn
    unfold maxLen
    omega
  have hszN : ∀ s, Maps.has (dn S.now) (kl s) = true → s.size ≤ maxLen := fun s hs => by
    obtain ⟨_, _, _, _, hn⟩ := ok.now_fine s hs
    have := isName_size hn
    unfold maxLen
    omega
  rcases hmm with ⟨hle, rfl, rfl⟩ | ⟨hle, rfl, rfl⟩
  all_goals
    go_wp2_with fail
    refine (rep_crash r3 ok lo dirs 0).mono ?_
    rintro e w4 ⟨da, rfl, sa4, b4⟩
    have r4 := r3.below b4
    have B4 := B3.trans (b4.mono B3.size)
    clear r3 B3 b4
    go_wp2_with fail
    refine (rep_crash r4 ok hi dirs 0).mono ?_
    rintro e w5 ⟨db, rfl, sb5, b5⟩
    have r5 := r4.below b5
    have B5 := B4.trans (b5.mono B4.size)
    have sa5 := sa4.below b5
    clear r4 B4 b5 sa4
    go_wp2_with fail
    refine (see_names sa5 hszA).mono ?_
    rintro e w6 ⟨la, nl, ca, La, rfl, cLa, hLa, stA6, memA, b6⟩
    have r6 := r5.below b6
    have B6 := B5.trans (b6.mono B5.size)
    have sa6 := sa5.below b6
    have sb6 := sb5.below b6
    clear r5 B5 b6 sa5 sb5
    go_wp2_with fail
    refine (see_names sb6 hszA).mono ?_
    rintro e w7 ⟨lb, nl', cb, Lb, rfl, cLb, hLb, stB7, memB, b7⟩
    have r7 := r6.below b7
    have B7 := B6.trans (b7.mono B6.size)
    have sa7 := sa6.below b7
    have sb7 := sb6.below b7
    have stA7 := stA6.below b7
    have hAB : nm Lb = nm La := nm_eq cLb cLa (fun k => (hLb k).trans (hLa k).symm)
    rw [hAB] at stB7
    obtain rfl : nl' = nl := by rw [← stB7.1, stA7.1]
    clear r6 B6 b7 sa6 sb6 stA6 hAB cLa cLb hLa hLb memB
    go_wp2_with fail
    refine (same_any stA7 stB7).mono ?_
    rintro e w8 ⟨rfl, q, rfl⟩
    have b8 : Below w7.heap.size w7 (w7.drewN q) := ⟨rfl, rfl, rfl, Nat.le_refl _, fun _ _ => rfl⟩
    have r8 := r7.below b8
    have B8 := B7.trans (b8.mono B7.size)
    have sa8 := sa7.below b8
    have sb8 := sb7.below b8
    have stA8 := stA7.below b8
    generalize w7.drewN q = w8 at r8 B8 sa8 sb8 stA8 ⊢
    clear r7 B7 b8 sa7 sb7 stA7 stB7
    have hnl : (nl' : Int) ≤ 9223372036854775807 := by have := stA8.2.1; have := stA8.2.2.1; unfold maxLen at this; omega
    go_wp2
    go_loopw [15] (fun i wr => ∃ k : Nat, k ≤ nl' ∧ i = .int .i64 (k : Int) ∧ Seen wr da (S.crashDir dirs) (fun f => (S.fil f).map (leftOf lo 0)) 0 ∧ Seen wr db (S.crashDir dirs) (fun f => (S.fil f).map (leftOf hi 0)) 0 ∧ Rep wr w2.heap.size d S ∧ St wr la nl' ca (nm La) ∧ Below w.heap.size w wr) (fun i _ => nl' - (intOf i).toNat)
    case atStart => exact ⟨0, by omega, rfl, sa8, sb8, r8, stA8, B8⟩
    case round =>
      obtain ⟨k, hk, rfl, sa9, sb9, r9, st9, B9⟩ := hrel
      clear sa8 sb8 r8 stA8 B8
      by_cases hlt : k < nl'
      · obtain ⟨g, off, rfl, hgl, hc⟩ := st9.2.2.2.2 (by omega)
        have ck := hc k hlt
        have hmem : (nm La).getD k ByteArray.empty ∈ nm La := by
          rw [List.getD, List.getElem?_eq_getElem (by rw [st9.1]; exact hlt)]
          exact List.getElem_mem _
        generalize (nm La).getD k ByteArray.empty = s at ck hmem
        obtain ⟨f, x, hat, hfx, hns⟩ := crash_name ok dirs (memA s hmem)
        obtain ⟨hxb, hx2, hx3⟩ := rep_fil r9 hfx
        have ra := see_read sa9 s hns f (leftOf lo 0 x) hat (by simp [hfx])
        have hi1 : (k : Int) < (nl' : Int) := by omega
        clear hc
        go_wp2_with fail
        refine ra.mono ?_
        rintro e u1 ⟨a1, l1, c1, rfl, slx, bu1⟩
        have sb10 := sb9.below bu1
        have ck1 : u1.cell? ⟨g, off + k, none⟩ = some (.string s) := (bu1.cell (p := ⟨g, off + k, none⟩) hgl).trans ck
        have rb := see_read sb10 s hns f (leftOf hi 0 x) hat (by simp [hfx])
        have HSA := hide2 (sa9.below bu1)
        have HR := hide2 (r9.below bu1)
        have HST := hide2 (st9.below bu1)
        have HB := hide2 (B9.trans (bu1.mono B9.size))
        have HSB := hide2 sb10
        clear ra sa9 sb9 r9 st9 B9 bu1 ck sb10
        go_wp2_with fail
        refine rb.mono ?_
        rintro e u2 ⟨a2, l2, c2, rfl, sly, bu2⟩
        have slx2 := slx.below bu2
        have hx := slx2.str (P := Try.prog) 32 Try.underlying32 Try.underlying5 Try.underlying9
        have hy := sly.str (P := Try.prog) 32 Try.underlying32 Try.underlying5 Try.underlying9
        obtain ⟨m, hm1, hm2⟩ := left_mono hlh x hx2
        have hbeg := begins_any (strOfNums (leftOf lo 0 x)) (strOfNums (leftOf hi 0 x)) u2 (by rw [strOf_size]; have := leftOf_len hi 0 x; unfold maxLen; omega) (by rw [strOf_size, strOf_size, hm2, List.length_take]; omega) (by rw [hm2]; exact strOf_extract _ m hm1)
        have HSA2 := hide2 (HSA.out.below bu2)
        have HSB2 := hide2 (HSB.out.below bu2)
        have HR2 := hide2 (HR.out.below bu2)
        have HST2 := hide2 (HST.out.below bu2)
        have HB2 := hide2 (HB.out.trans (bu2.mono HB.out.size))
        clear rb HSA HSB HR HST HB bu2 slx sly slx2 ck1 hm1 hm2 hat hfx
        go_wp2_with (go_at_call 25; refine hbeg.mono ?_; rintro e w' ⟨rfl, rfl⟩)
        go_roundw
        case rel => exact ⟨k + 1, by omega, by go_num, HSA2.out, HSB2.out, HR2.out, HST2.out, HB2.out⟩
        case measure => simp [intOf]; omega
      · clear memA st9 sb9
        go_wp2_with fail
        clear hlt hk
        refine (rep_crash r9 ok 262144 65536 0).mono ?_
        rintro e v1 ⟨dc, rfl, sc1, bv1⟩
        have sa10 := sa9.below bv1
        have r10 := r9.below bv1
        have B10 := B9.trans (bv1.mono B9.size)
        rw [crashDir_all ok] at sc1
        clear sa9 r9 B9 bv1
        go_wp2_with fail
        refine (rep_names r10 ok pl hszN).mono ?_
        rintro e v2 ⟨lm, nm1, cm, Lm, rfl, cLm, hLm, stM2, memM, bv2⟩
        have sa11 := sa10.below bv2
        have r11 := r10.below bv2
        have B11 := B10.trans (bv2.mono B10.size)
        have sc2 := sc1.below bv2
        clear sa10 r10 B10 bv2 sc1
        go_wp2_with fail
        refine (see_names sc2 hszN).mono ?_
        rintro e v3 ⟨lc, nm2, cc, Lc, rfl, cLc, hLc, stC3, memC, bv3⟩
        have sa12 := sa11.below bv3
        have r12 := r11.below bv3
        have B12 := B11.trans (bv3.mono B11.size)
        have sc3 := sc2.below bv3
        have stM3 := stM2.below bv3
        have hMC : nm Lc = nm Lm := nm_eq cLc cLm (fun k => (hLc k).trans (hLm k).symm)
        rw [hMC] at stC3
        obtain rfl : nm2 = nm1 := by rw [← stC3.1, stM3.1]
        clear sa11 r11 B11 bv3 sc2 stM2 hMC cLc cLm hLc hLm memC
        go_wp2_with fail
        refine (same_any stM3 stC3).mono ?_
        rintro e v4 ⟨rfl, q, rfl⟩
        have bv4 : Below v3.heap.size v3 (v3.drewN q) := ⟨rfl, rfl, rfl, Nat.le_refl _, fun _ _ => rfl⟩
        have sa13 := sa12.below bv4
        have r13 := r12.below bv4
        have B13 := B12.trans (bv4.mono B12.size)
        have sc4 := sc3.below bv4
        have stM4 := stM3.below bv4
        generalize v3.drewN q = v4 at sa13 r13 B13 sc4 stM4 ⊢
        clear sa12 r12 B12 bv4 sc3 stM3 stC3
        have hnm : (nm2 : Int) ≤ 9223372036854775807 := by have := stM4.2.1; have := stM4.2.2.1; unfold maxLen at this; omega
        go_wp2
        go_loopw [23, 22] (fun i t wr => ∃ k : Nat, k ≤ nm2 ∧ i = .int .i64 (k : Int) ∧ t = .bool true ∧ Seen wr da (S.crashDir dirs) (fun f => (S.fil f).map (leftOf lo 0)) 0 ∧ Seen wr dc (dn S.now) (fun f => (S.fil f).map (leftOf 262144 0)) 0 ∧ Rep wr w2.heap.size d S ∧ St wr lm nm2 cm (nm Lm) ∧ Below w.heap.size w wr) (fun i _ _ => nm2 - (intOf i).toNat)
        case atStart => exact ⟨0, by omega, rfl, rfl, sa13, sc4, r13, stM4, B13⟩
        case round =>
          obtain ⟨k2, hk2, rfl, rfl, sa14, sc14, r14, st14, B14⟩ := hrel
          clear sa13 sc4 r13 stM4 B13
          by_cases hlt : k2 < nm2
          · obtain ⟨g, off, rfl, hgl, hc⟩ := st14.2.2.2.2 (by omega)
            have ck := hc k2 hlt
            have hmem : (nm Lm).getD k2 ByteArray.empty ∈ nm Lm := by
              rw [List.getD, List.getElem?_eq_getElem (by rw [st14.1]; exact hlt)]
              exact List.getElem_mem _
            generalize (nm Lm).getD k2 ByteArray.empty = s at ck hmem
            have hhas := memM s hmem
            have him : IsMap S.now := by
              rcases ok.isn with e | e
              · rw [e] at hhas
                cases hhas
              · exact e
            obtain ⟨f, x, hat, hfx, hns⟩ := ok.now_fine s hhas
            obtain ⟨hxb, hx2, hx3⟩ := rep_fil r14 hfx
            have ra := see_read (r14.seen ok pl him) s hns f x.1 hat (by simp [hfx])
            have hi1 : (k2 : Int) < (nm2 : Int) := by omega
            clear hc hhas
            go_wp2_with fail
            refine ra.mono ?_
            rintro e u1 ⟨a1, l1, c1, rfl, slx, bu1⟩
            have sc15 := sc14.below bu1
            have ck1 : u1.cell? ⟨g, off + k2, none⟩ = some (.string s) := (bu1.cell (p := ⟨g, off + k2, none⟩) hgl).trans ck
            have rb := see_read sc15 s hns f x.1 hat (by simp [hfx, left_all x hx3 hx2])
            have HSA := hide2 (sa14.below bu1)
            have HR := hide2 (r14.below bu1)
            have HST := hide2 (st14.below bu1)
            have HB := hide2 (B14.trans (bu1.mono B14.size))
            have HSC := hide2 sc15
            clear ra sa14 sc14 r14 st14 B14 bu1 ck sc15
            go_wp2_with fail
            refine rb.mono ?_
            rintro e u2 ⟨a2, l2, c2, rfl, sly, bu2⟩
            have slx2 := slx.below bu2
            have hx := slx2.str (P := Try.prog) 32 Try.underlying32 Try.underlying5 Try.underlying9
            have hy := sly.str (P := Try.prog) 32 Try.underlying32 Try.underlying5 Try.underlying9
            have HSA2 := hide2 (HSA.out.below bu2)
            have HSC2 := hide2 (HSC.out.below bu2)
            have HR2 := hide2 (HR.out.below bu2)
            have HST2 := hide2 (HST.out.below bu2)
            have HB2 := hide2 (HB.out.trans (bu2.mono HB.out.size))
            have hee : ((strOfNums x.1).toList == (strOfNums x.1).toList) = true := by simp
            clear rb HSA HSC HR HST HB bu2 slx sly slx2 ck1 hat hfx
            go_wp2
            go_roundw
            case rel => exact ⟨k2 + 1, by omega, by go_num, by simp, HSA2.out, HSC2.out, HR2.out, HST2.out, HB2.out⟩
            case measure => simp [intOf]; omega
          · have hops := see_ops sa14
            clear sa14 sc14 r14 st14
            go_wp2_with (go_at_call 26; refine hops.mono ?_; rintro e w' ⟨rfl, rfl⟩)
            go_ret
            exact ⟨rfl, B14⟩
end Go.Proofs.Ytolaagbdnchhiaa
