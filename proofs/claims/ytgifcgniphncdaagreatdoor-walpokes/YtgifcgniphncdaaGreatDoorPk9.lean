/-
  A directory's copy.
-/
import Derived.Test.YtgifcgniphncdaaGreatDoorPk7
import Derived.Test.YtgifcgniphncdaaGreatDoorPk8
import Derived.Test.YtgifcgniphncdaaGreatDoorPk6
import Derived.Deep.RegionHeld3
set_option linter.unusedVariables false
set_option linter.unusedSimpArgs false
namespace Go.Proofs.YtgifcgniphncdaaGreatDoor
open Go.RowKit Go.Maps

theorem makeMapN (n : Nat) (w : World) : (Instr.makeMap 73 (some (.int .i64 (n : Int)))).run Tryz.prog w = .ok (.map (some w.heap.size)) (w.alloc (.map #[] 0)) := by kernel_rfl

theorem merge_self {w : World} {mb : Option Nat} {D : DataW Value} (h : Dir w mb D) : Lib.mergeD (.map []) D = dn D := by
  rcases h with ⟨rfl, rfl⟩ | ⟨b, n, rfl, ho⟩
  · rfl
  · rw [own_dn ho]
    have cD := ho.canonK dirKeyed
    have cE : CanonK (KeysOf Tryz.prog 9) (DataW.map [] : DataW Value) := ⟨[], rfl, List.Pairwise.nil, fun p hp => by cases hp⟩
    have hc := cD
    obtain ⟨es, rfl, hp, hk⟩ := hc
    have hkl : ∀ p ∈ es, WideAt.IsKeyLit p.1 := fun p hp => dirKeyed.one.key (hk p hp)
    have hne : es.Pairwise (fun p q => p.1 ≠ q.1) := hp.imp fun {a b} h e => by
      rw [e] at h
      exact absurd h (by rw [WideShapes.before_irrefl]; simp)
    refine ext (H := Value) ((canonK_fold dirKeyed.one es _ hk cE).canon dirKeyed.one) (cD.canon dirKeyed.one) (fun k => ?_) (fun k z _ => ?_)
    · show has (es.foldl (fun D p => D.put p.1 p.2) (DataW.map [])) k = _
      rw [has_foldPut k es _ ⟨_, rfl⟩ hkl]
      rfl
    · show (es.foldl (fun D p => D.put p.1 p.2) (DataW.map [])).atKey k z = _
      rw [atKey_foldPut k z es _ ⟨_, rfl⟩ hkl hne]
      rfl

set_option maxHeartbeats 1000000 in
theorem copied_any {w : World} {mb : Option Nat} {D : DataW Value} (h : Dir w mb D) (hD : Maps.size D ≤ 1000000) :
    Calls Tryz.prog 57 #[.map mb] w fun e w' => ∃ b, e = .returned (.map (some b)) ∧ w.heap.size ≤ b ∧ w'.ownsMap Tryz.prog 9 RV b (Maps.size D) (dn D) ∧ Below w.heap.size w w' := by
  have hlen := h.len 3
  have hmk := makeMapN (Maps.size D) w
  have hmade := World.ownsMap_made w Tryz.prog 9 RV
  have hb1 : Below w.heap.size w (w.alloc (.map #[] 0)) := (Below.refl _ _).alloc (Nat.le_refl _) _
  have hjm : ∀ j, mb = some j → j < w.heap.size := fun j e => by
    rcases h with ⟨rfl, _⟩ | ⟨b, n, rfl, ho⟩
    · cases e
    · cases e; exact ho.lt
  have h1 : Dir (w.alloc (.map #[] 0)) mb D := Dir.same h fun j e => hb1.block j (hjm j e)
  have hcp := AnyX.maps_Copy_opt copyL dirKeyed RV w.heap.size 0 mb (.map []) D (w.alloc (.map #[] 0)) hmade h1 (fun e => by have := hjm _ e; omega) (by unfold maxLen; omega)
  change Calls Tryz.prog 104 _ _ _ at hcp
  rw [merge_self h, Nat.zero_add] at hcp
  go_enter Tryz.func57, Tryz.ntmps57
  go_wp2_with fail
  refine hcp.mono ?_
  rintro e w2 ⟨rfl, ho2, hg2⟩
  go_wp2
  go_ret
  exact ⟨_, rfl, Nat.le_refl _, ho2, hb1.trans ⟨hg2.os, hg2.tape, hg2.output, hg2.size, fun k hk => hg2.block k (by simp; omega) (by simp; omega)⟩⟩
end Go.Proofs.YtgifcgniphncdaaGreatDoor

/-
  What changes of a directory do, one behind the other.
-/
set_option linter.unusedVariables false
set_option linter.unusedSimpArgs false
namespace Go.Proofs.YtgifcgniphncdaaGreatDoor
open Go.RowKit Go.Maps

/-- A change of a directory. -/
inductive Ch where
  | mk (s : ByteArray) (f : Nat)
  | del (s : ByteArray)
  | ren (s t : ByteArray)

def kl (s : ByteArray) : Lit := .string s.data.toList
def pt (f : Nat) : DataW Value := .held (.pointer (some ⟨f, 0, none⟩))
def no : DataW Value := .held (.pointer none)

def Ch.run : Ch → DataW Value → DataW Value
  | .mk s f, D => D.put (kl s) (pt f)
  | .del s, D => D.del (kl s)
  | .ren s t, D => (D.del (kl s)).put (kl t) (D.atKey (kl s) no)

def runs (l : List Ch) (D : DataW Value) : DataW Value := l.foldl (fun D c => c.run D) D
def dlCl (n : Nat) : Value := .func (.func 114) #[] #[.pointer (some ⟨n, 0, none⟩)]
def rnCl (n m : Nat) : Value := .func (.func 0) #[] #[.pointer (some ⟨n, 0, none⟩), .pointer (some ⟨m, 0, none⟩)]

/-- A closure that makes this change. -/
def ChAt (w : World) (c : Value) : Ch → Prop
  | .mk s f => ∃ fb nb, c = mkCl fb nb ∧ Box w nb (.string s) 9 ∧ Box w fb (.pointer (some ⟨f, 0, none⟩)) 107 ∧ s.size ≤ 16
  | .del s => ∃ nb, c = dlCl nb ∧ Box w nb (.string s) 9 ∧ s.size ≤ 16
  | .ren s t => ∃ nb mb, c = rnCl nb mb ∧ Box w nb (.string s) 9 ∧ Box w mb (.string t) 9 ∧ s.size ≤ 16 ∧ (t.size ≤ 16 ∧ False)

end Go.Proofs.YtgifcgniphncdaaGreatDoor

/-
  SyncDir; Append where it is not done, and to a file that is there.
-/
set_option linter.unusedVariables false
set_option linter.unusedSimpArgs false
namespace Go.Proofs.YtgifcgniphncdaaGreatDoor
open Go.RowKit Go.Maps

set_option maxHeartbeats 1000000 in
theorem syncDir_full {w : World} {d : Nat} {now syn since : Value} {ops cutAt : Int} {cuts gone : Bool} (h : Dk w d now syn since ops cutAt cuts gone) (hon : On ops cutAt cuts gone) (hops : 65536 ≤ ops) :
    Calls Tryz.prog 32 #[.pointer (some ⟨d, 0, none⟩)] w fun e w' => e = .returned (.int .i64 23) ∧ ∃ q, w' = w.drewN q := by
  have hst := start_none h hon
  have hworn : ∀ q, Calls Tryz.prog 71 #[.pointer (some ⟨d, 0, none⟩)] (w.drewN q) fun e w' => e = .returned (.bool true) ∧ w' = w.drewN q := fun q => by
    have := worn_any (w := w.drewN q) (h.same rfl)
    rwa [show decide (65536 ≤ ops) = true by simpa using hops] at this
  go_enter Tryz.func32, Tryz.ntmps32
  go_wp2_with fail
  refine hst.mono ?_
  rintro e w' ⟨rfl, q, rfl⟩
  go_wp2_with fail
  refine (hworn q).mono ?_
  rintro e w' ⟨rfl, rfl⟩
  go_wp2
  go_ret
  exact ⟨rfl, _, rfl⟩

set_option maxHeartbeats 2000000 in
theorem syncDir_ok {w : World} {d : Nat} {mb : Option Nat} {syn since : Value} {ops cutAt : Int} {cuts gone : Bool} {D : DataW Value} (h : Dk w d (.map mb) syn since ops cutAt cuts gone) (hon : On ops cutAt cuts gone) (hd : Dir w mb D) (hD : Maps.size D ≤ 1000000) (ho0 : 0 ≤ ops) (hops : ops < 65536) :
    Calls Tryz.prog 32 #[.pointer (some ⟨d, 0, none⟩)] w fun e w' => ∃ b, e = .returned (.int .i64 0) ∧ w.heap.size ≤ b ∧ Dk w' d (.map mb) (.map (some b)) (.slice none 0 0) (ops + 1) cutAt cuts gone ∧
      w'.ownsMap Tryz.prog 9 RV b (Maps.size D) (dn D) ∧ Fr (fun j => j = d) w w' := by
  have hlt := h.lt
  have hst := start_none h hon
  have hworn : ∀ q, Calls Tryz.prog 71 #[.pointer (some ⟨d, 0, none⟩)] (w.drewN q) fun e w' => e = .returned (.bool false) ∧ w' = w.drewN q := fun q => by
    have := worn_any (w := w.drewN q) (h.same rfl)
    rwa [show decide (65536 ≤ ops) = false by simp; omega] at this
  go_enter Tryz.func32, Tryz.ntmps32
  go_wp2_with fail
  refine hst.mono ?_
  rintro e w' ⟨rfl, q, rfl⟩
  go_wp2_with fail
  refine (hworn q).mono ?_
  rintro e w' ⟨rfl, rfl⟩
  have b1 : Below w.heap.size w (w.drewN q) := ⟨rfl, rfl, rfl, Nat.le_refl _, fun _ _ => rfl⟩
  have h1 : Dk (w.drewN q) d (.map mb) syn since ops cutAt cuts gone := h.same rfl
  have d1 : Dir (w.drewN q) mb D := Dir.same hd fun _ _ => rfl
  have s1 : (w.drewN q).heap.size = w.heap.size := rfl
  generalize w.drewN q = W at b1 h1 d1 s1 ⊢
  have hcop := copied_any d1 hD
  obtain ⟨c0, c1, c2, c3, c4, c5, c6⟩ := h1.cells
  clear hst hworn
  go_wp2_with fail
  refine hcop.mono ?_
  rintro e w2 ⟨b, rfl, hb, o2, b2⟩
  have h2 := h1.same (b2.block d (by omega))
  clear c0 c1 c2 c3 c4 c5 c6
  obtain ⟨c0, c1, c2, c3, c4, c5, c6⟩ := h2.cells
  have fr2 := h2.free
  have z1 := fr2 1
  have z2 := fr2 2
  have z3 := fr2 3
  have S1 := hide2 (((h2.set.2.1 (.map (some b))).set.2.2.1 (.slice none 0 0)).set.2.2.2.1 (ops + 1))
  have hbd : b ≠ d := by omega
  have G := hide2 ((((Fr.below (F := fun j => j = d) (w := w) (w' := w2) (b1.trans (b2.mono (by omega)))).setCell (p := ⟨d, 1, none⟩) (.inl rfl) (.map (some b))).setCell (p := ⟨d, 2, none⟩) (.inl rfl) (.slice none 0 0)).setCell (p := ⟨d, 3, none⟩) (.inl rfl) (.int .i64 (ops + 1)))
  have O := hide2 (((o2.setCell (a := ⟨d, 1, none⟩) hbd (.map (some b))).setCell (a := ⟨d, 2, none⟩) hbd (.slice none 0 0)).setCell (a := ⟨d, 3, none⟩) hbd (.int .i64 (ops + 1)))
  clear hcop h1 d1 o2 b2 b1 fr2
  go_wp2
  go_ret
  exact ⟨b, rfl, by omega, S1.out, O.out, G.out⟩

set_option maxHeartbeats 2000000 in
/-- Append, where there is no room. -/
theorem append_full {w : World} {d : Nat} {mb : Option Nat} {syn since : Value} {ops cutAt : Int} {cuts gone : Bool} {D : DataW Value} (h : Dk w d (.map mb) syn since ops cutAt cuts gone) (hon : On ops cutAt cuts gone) (hd : Dir w mb D)
    (s : ByteArray) (hn : isName s = true) (p : Option Addr) (hl : Leads D s p) (ao : Option Addr) (len cap : Nat) (hlen : len ≤ maxLen)
    (hf : ∀ a, p = some a → ∃ f ao' l c sy, a = ⟨f, 0, none⟩ ∧ Fl w f (.slice ao' l c) sy ∧ l ≤ 262144 ∧ (ops < 65536 → 262144 < len + l)) (hnew : p = none → ops < 65536 → 262144 < len ∨ 64 ≤ Maps.size D) :
    Calls Tryz.prog 43 #[.pointer (some ⟨d, 0, none⟩), .string s, .slice ao len cap] w fun e w' => e = .returned (.int .i64 23) ∧ Below w.heap.size w w' := by
  have hlt := h.lt
  have hz := isName_size hn
  have hs : s.size ≤ maxLen := by unfold maxLen; omega
  have h1 : Dk (w.alloc (.cells #[.string s] 9)) d (.map mb) syn since ops cutAt cuts gone := h.same (Below.heap_alloc _ _ d hlt)
  have hst := start_one h1 hon w.heap.size 1 s hs (by simp) 0 (by simp [hn])
  have hjm : ∀ j, mb = some j → j < w.heap.size := fun j e => by
    rcases hd with ⟨rfl, _⟩ | ⟨b, n, rfl, ho⟩
    · cases e
    · cases e; exact ho.lt
  go_enter Tryz.func43, Tryz.ntmps43
  go_wp2_with fail
  refine hst.mono ?_
  rintro e w' ⟨rfl, q, rfl⟩
  have b1 : Below w.heap.size w ((w.alloc (.cells #[.string s] 9)).drewN q) := ((Below.refl _ _).alloc (Nat.le_refl _) _).trans ⟨rfl, rfl, rfl, Nat.le_refl _, fun _ _ => rfl⟩
  generalize (w.alloc (.cells #[.string s] 9)).drewN q = W at b1 ⊢
  clear hst h1
  have h1 : Dk W d (.map mb) syn since ops cutAt cuts gone := h.same (b1.block d hlt)
  have d1 : Dir W mb D := Dir.same hd fun j e => b1.block j (hjm j e)
  have hlook := d1.look s hs p hl
  have hworn := worn_any h1
  obtain ⟨c0, c1, c2, c3, c4, c5, c6⟩ := h1.cells
  by_cases ho : 65536 ≤ ops
  · rw [show decide (65536 ≤ ops) = true by simpa using ho] at hworn
    go_wp2_with (go_at_call 71; refine hworn.mono ?_; rintro e w' ⟨rfl, rfl⟩)
    go_ret
    exact ⟨rfl, b1⟩
  · rw [show decide (65536 ≤ ops) = false by simpa using ho] at hworn
    cases p with
    | none =>
      have hroom := room_new h1 d1 len hlen
      rw [show (decide (len ≤ 262144) && decide (Maps.size D < 64)) = false by have := hnew rfl (by omega); simp; omega] at hroom
      have hl63 : (len : Int) ≤ 9223372036854775807 := by unfold maxLen at hlen; omega
      go_wp2_with (first
        | (go_at_call 71; refine hworn.mono ?_; rintro e w' ⟨rfl, rfl⟩)
        | (go_at_call 83; refine hroom.mono ?_; rintro e w' ⟨rfl, rfl⟩)
        | fail)
      go_ret
      exact ⟨rfl, b1⟩
    | some a =>
      obtain ⟨f, ao', l, c, sy, rfl, hF, hl2, hbig⟩ := hf a rfl
      have hroom := room_old (p := .pointer (some ⟨d, 0, none⟩)) ((b1.block f hF.lt).trans hF : Fl W f (.slice ao' l c) sy) (by unfold maxLen; omega) len hlen
      rw [show decide (len + l ≤ 262144) = false by have := hbig (by omega); simp; omega] at hroom
      have hl63 : (len : Int) ≤ 9223372036854775807 := by unfold maxLen at hlen; omega
      go_wp2_with (first
        | (go_at_call 71; refine hworn.mono ?_; rintro e w' ⟨rfl, rfl⟩)
        | (go_at_call 83; refine hroom.mono ?_; rintro e w' ⟨rfl, rfl⟩)
        | fail)
      go_ret
      exact ⟨rfl, b1⟩
end Go.Proofs.YtgifcgniphncdaaGreatDoor

/-
  Append to a file that is there.
-/
set_option linter.unusedVariables false
set_option linter.unusedSimpArgs false
namespace Go.Proofs.YtgifcgniphncdaaGreatDoor
open Go.RowKit Go.Maps

set_option maxHeartbeats 4000000 in
set_option maxRecDepth 100000 in
theorem append_old {w : World} {d B : Nat} {mb : Option Nat} {syn since : Value} {ops cutAt : Int} {cuts gone : Bool} {D : DataW Value}
    (h : Dk w d (.map mb) syn since ops cutAt cuts gone) (hon : On ops cutAt cuts gone) (hd : Dir w mb D) (hB : B ≤ w.heap.size) (ho0 : 0 ≤ ops) (hops : ops < 65536)
    (s : ByteArray) (hn : isName s = true) (f sy : Nat) (hl : Leads D s (some ⟨f, 0, none⟩)) (fv : Value) (ys : List Int) (hf : Fl w f fv sy) (hown : Own w B fv ys) (hby : Byt ys)
    (ao : Option Addr) (len cap : Nat) (xs : List Int) (hx : Sl w ao len cap xs) (hfit : len + ys.length ≤ 262144) :
    Calls Tryz.prog 43 #[.pointer (some ⟨d, 0, none⟩), .string s, .slice ao len cap] w fun e w' =>
      ∃ fv', e = .returned (.int .i64 0) ∧ Fl w' f fv' sy ∧ Own w' B fv' (ys ++ xs) ∧ (fv'.ownBlock = fv.ownBlock ∨ ∃ j, fv'.ownBlock = some j ∧ w.heap.size ≤ j) ∧ Dk w' d (.map mb) syn since (ops + 1) cutAt cuts gone ∧
        Fr (fun j => j = d ∨ j = f ∨ fv.ownBlock = some j) w w' := by
  have hlt := h.lt
  have hz := isName_size hn
  have hs : s.size ≤ maxLen := by unfold maxLen; omega
  have h1 : Dk (w.alloc (.cells #[.string s] 9)) d (.map mb) syn since ops cutAt cuts gone := h.same (Below.heap_alloc _ _ d hlt)
  have hst := start_one h1 hon w.heap.size 1 s hs (by simp) 0 (by simp [hn])
  have hlen : len ≤ maxLen := by unfold maxLen; omega
  obtain ⟨i0, hi, hz0, hz1, hz2⟩ := info_parts Tryz.info5
  have hjm : ∀ j, mb = some j → j < w.heap.size := fun j e => by
    rcases hd with ⟨rfl, _⟩ | ⟨b, n, rfl, ho⟩
    · cases e
    · cases e; exact ho.lt
  have hjr : ∀ j, fv.ownBlock = some j → j < w.heap.size ∧ j ≠ d ∧ j ≠ f := fun j e => by
    obtain ⟨cur, hh, _, hl⟩ := row_block hown e
    refine ⟨hl, ?_, ?_⟩
    · rintro rfl
      unfold Dk at h
      rw [h] at hh
      simp at hh
    · rintro rfl
      unfold Fl at hf
      rw [hf] at hh
      simp at hh
  have hdf : d ≠ f := fun e => by
    unfold Dk at h; unfold Fl at hf
    rw [e, hf] at h
    simp at h
  have hfd := hdf.symm
  go_enter Tryz.func43, Tryz.ntmps43
  go_wp2_with fail
  refine hst.mono ?_
  rintro e w' ⟨rfl, q, rfl⟩
  have b1 : Below w.heap.size w ((w.alloc (.cells #[.string s] 9)).drewN q) := ((Below.refl _ _).alloc (Nat.le_refl _) _).trans ⟨rfl, rfl, rfl, Nat.le_refl _, fun _ _ => rfl⟩
  generalize (w.alloc (.cells #[.string s] 9)).drewN q = W at b1 ⊢
  clear hst h1
  have h1 : Dk W d (.map mb) syn since ops cutAt cuts gone := h.same (b1.block d hlt)
  have d1 : Dir W mb D := Dir.same hd fun j e => b1.block j (hjm j e)
  have f1 : Fl W f fv sy := (b1.block f hf.lt).trans hf
  have own1 : Own W B fv ys := row_same hown fun j e => b1.block j (hjr j e).1
  have x1 := hx.below b1
  obtain ⟨aof, lf, capf, rfl, slf, _⟩ := own1.sl' hby
  have hlf : lf = ys.length := slf.1.symm
  have hlook := d1.look s hs _ hl
  have hworn := worn_any h1
  rw [show decide (65536 ≤ ops) = false by simp; omega] at hworn
  have hroom := room_old (p := .pointer (some ⟨d, 0, none⟩)) f1 (by unfold maxLen; omega) len hlen
  rw [show decide (len + lf ≤ 262144) = true by simp; omega] at hroom
  have hs1 := b1.size
  have hl63 : (len : Int) ≤ 262144 := by omega
  obtain ⟨c0, c1, c2, c3, c4, c5, c6⟩ := h1.cells
  have cf := f1.cells.1
  clear hlf
  go_wp2_with (first
    | (go_at_call 71; refine hworn.mono ?_; rintro e w' ⟨rfl, rfl⟩)
    | (go_at_call 83; refine hroom.mono ?_; rintro e w' ⟨rfl, rfl⟩)
    | (at_builtin
       refine wpList_append_sl_at rfl _ _ 40 rfl B i0 Tryz.underlying40 hi hz0 hz1 hz2 (.slice aof lf capf) ys rfl own1 ao len cap xs rfl x1 (by omega) (by omega) ?_
       intro fv' w3 own3 gr3 bl3
       have f3 : Fl w3 f (.slice aof lf capf) sy := (gr3.block f f1.lt (fun e => (hjr f e.symm).2.2 rfl)).trans f1
       have cf3 := f3.cells.1
       have zf3 := f3.free 0
       have h3 : Dk w3 d (.map mb) syn since ops cutAt cuts gone := h1.same (gr3.block d h1.lt (fun e => (hjr d e.symm).2.1 rfl))
       have k3 := h3.cells.2.2.2.1
       have u3 := h3.free 3
       obtain ⟨ao3, l3, cap3, rfl, sl3, ne3⟩ := own3.sl' (hby.append x1.2.2.2.1)
       go_frame)
    | go_in)
  go_ret
  have S3 := gr3.size
  have hf4 : Fl (w3.setCell ⟨f, 0, none⟩ (.slice ao3 l3 cap3)) f (.slice ao3 l3 cap3) sy := f3.set0 _
  have hd4 : Dk (w3.setCell ⟨f, 0, none⟩ (.slice ao3 l3 cap3)) d (.map mb) syn since ops cutAt cuts gone := h3.same (Below.heap_setCell _ _ _ _ (by simpa using hdf))
  have hd5 := hd4.set.2.2.2.1 (ops + 1)
  have keep3 : ∀ j, j ≠ f → j ≠ d → ((w3.setCell ⟨f, 0, none⟩ (.slice ao3 l3 cap3)).setCell ⟨d, 3, none⟩ (.int .i64 (ops + 1))).heap[j]? = w3.heap[j]? := fun j e1 e2 =>
    (Below.heap_setCell _ _ _ _ (by simpa using e2)).trans (Below.heap_setCell _ _ _ _ (by simpa using e1))
  have fl1 := f1.lt
  have dl1 := h1.lt
  refine ⟨.slice ao3 l3 cap3, rfl, (Below.heap_setCell _ _ _ _ (by simpa using hfd)).trans hf4, row_same own3 fun j e => keep3 j ?_ ?_, ?_, hd5, ?_⟩
  · rcases bl3 with e' | e'
    · exact (hjr j (e' ▸ e)).2.2
    · rw [e'] at e; cases e; omega
  · rcases bl3 with e' | e'
    · exact (hjr j (e' ▸ e)).2.1
    · rw [e'] at e; cases e; omega
  · rcases bl3 with e' | e'
    · exact .inl e'
    · exact .inr ⟨_, e', by omega⟩
  · have G1 : Fr (fun j => j = d ∨ j = f ∨ (Value.slice aof lf capf).ownBlock = some j) w w3 := (Fr.below b1).trans (G := fun j => (Value.slice aof lf capf).ownBlock = some j) (Fr.grown gr3 (fun j e => e)) (fun j e => .inl (.inr (.inr e)))
    exact (G1.setCell (.inl (.inr (.inl rfl))) _).setCell (.inl (.inl rfl)) _
end Go.Proofs.YtgifcgniphncdaaGreatDoor

/-
  The disk, told apart from memory: directories, changes, files.
-/
set_option linter.unusedVariables false
set_option linter.unusedSimpArgs false
namespace Go.Proofs.YtgifcgniphncdaaGreatDoor
open Go.RowKit Go.Maps

theorem at_not_has {D : DataW Value} {k : Lit} (h : Maps.has D k = false) (z : DataW Value) : D.atKey k z = z := atKey_of_not_has h z

/-- Each name of a directory leads to a file. -/
def Fine (D : DataW Value) (fil : Nat → Option (List Int × Nat)) : Prop := ∀ s : ByteArray, Maps.has D (kl s) = true → ∃ f x, (∀ z, D.atKey (kl s) z = pt f) ∧ fil f = some x ∧ isName s = true

theorem kl_inj {s t : ByteArray} (h : kl s = kl t) : s = t := by
  injection h with e
  exact ByteArray.ext (Array.toList_inj.1 e)

/-- What a name leads to. -/
theorem Fine.lead {D : DataW Value} {fil : Nat → Option (List Int × Nat)} (h : Fine D fil) (s : ByteArray) : (Maps.has D (kl s) = false ∧ Leads D s none) ∨ ∃ f x, Maps.has D (kl s) = true ∧ (∀ z, D.atKey (kl s) z = pt f) ∧ Leads D s (some ⟨f, 0, none⟩) ∧ fil f = some x := by
  cases e : Maps.has D (kl s) with
  | true =>
    obtain ⟨f, x, h1, h2, _⟩ := h s e
    exact .inr ⟨f, x, rfl, h1, h1 _, h2⟩
  | false => exact .inl ⟨rfl, at_not_has e _⟩

theorem kl_lit (s : ByteArray) : WideAt.IsKeyLit (kl s) := trivial

theorem Fine.put {D : DataW Value} {fil : Nat → Option (List Int × Nat)} (h : Fine D fil) (hm : IsMap D) (s : ByteArray) (f : Nat) (x : List Int × Nat) (hf : fil f = some x) (hn : isName s = true) : Fine (D.put (kl s) (pt f)) fil := fun t ht => by
  by_cases e : kl t = kl s
  · rw [e]
    exact ⟨f, x, fun z => atKey_put_same hm (kl_lit s) _ _, hf, by rw [kl_inj e]; exact hn⟩
  · rw [has_put_other e] at ht
    obtain ⟨g, y, h1, h2, h3⟩ := h t ht
    exact ⟨g, y, fun z => (atKey_put_other e _ _).trans (h1 z), h2, h3⟩

theorem Fine.more {D : DataW Value} {fil fil' : Nat → Option (List Int × Nat)} (h : Fine D fil) (hk : ∀ f x, fil f = some x → ∃ y, fil' f = some y) : Fine D fil' := fun s hs => by
  obtain ⟨f, x, h1, h2, h3⟩ := h s hs
  obtain ⟨y, hy⟩ := hk f x h2
  exact ⟨f, y, h1, hy, h3⟩

theorem fine_empty (fil : Nat → Option (List Int × Nat)) : Fine (.map []) fil := fun s hs => by cases hs

theorem size_put_le (D : DataW Value) (k : Lit) (v : DataW Value) : Maps.size (D.put k v) ≤ Maps.size D + 1 := by
  cases D <;> try exact Nat.zero_le _
  rename_i es
  show (DataW.insert (k, v) (es.filter fun p => !p.1.sameKey k)).length ≤ es.length + 1
  rw [length_insert]
  have := List.length_filter_le (fun p : Lit × DataW Value => !p.1.sameKey k) es
  omega
/-- The disk, told apart from memory. -/
structure AD where
  now : DataW Value
  syn : DataW Value
  chs : List Ch
  fil : Nat → Option (List Int × Nat)
  ops : Int
  cutAt : Int
  cuts : Bool
  gone : Bool

/-- What holds of every such disk. -/
structure AD.ok (S : AD) : Prop where
  lo : 0 ≤ S.ops
  hi : S.ops ≤ 65536
  few : (S.chs.length : Int) ≤ S.ops
  isn : S.now = .nil ∨ IsMap S.now
  iss : S.syn = .nil ∨ IsMap S.syn
  szn : Maps.size S.now ≤ 64
  szs : Maps.size S.syn ≤ 64
  road : runs S.chs (dn S.syn) = dn S.now
  fine : ∀ k, k ≤ S.chs.length → Fine (runs (S.chs.take k) (dn S.syn)) S.fil

theorem dn_map {D : DataW Value} (h : D = .nil ∨ IsMap D) : IsMap (dn D) := by
  rcases h with rfl | ⟨es, rfl⟩
  · exact ⟨[], rfl⟩
  · exact ⟨es, rfl⟩
theorem dn_at {D : DataW Value} (h : D = .nil ∨ IsMap D) (k : Lit) (z : DataW Value) : (dn D).atKey k z = D.atKey k z := by
  rcases h with rfl | ⟨es, rfl⟩ <;> rfl
theorem dn_sz {D : DataW Value} (h : D = .nil ∨ IsMap D) : Maps.size (dn D) = Maps.size D := by
  rcases h with rfl | ⟨es, rfl⟩ <;> rfl
theorem dn_id {D : DataW Value} (h : IsMap D) : dn D = D := by
  obtain ⟨es, rfl⟩ := h
  rfl

theorem AD.ok.now_fine {S : AD} (h : S.ok) : Fine (dn S.now) S.fil := by
  have := h.fine S.chs.length (Nat.le_refl _)
  rwa [List.take_length, h.road] at this

theorem runs_snoc (l : List Ch) (c : Ch) (D : DataW Value) : runs (l ++ [c]) D = c.run (runs l D) := by simp [runs]

/-- One more change, and one more operation; the files may have become more, or other ones. -/
theorem AD.ok.step {S : AD} (h : S.ok) (c : Ch) (fil' : Nat → Option (List Int × Nat)) (hop : S.ops < 65536) (hk : ∀ f x, S.fil f = some x → ∃ y, fil' f = some y) (hm : IsMap (c.run (dn S.now))) (hs : Maps.size (c.run (dn S.now)) ≤ 64) (hf : Fine (c.run (dn S.now)) fil') :
    AD.ok { S with now := c.run (dn S.now), chs := S.chs ++ [c], fil := fil', ops := S.ops + 1 } := by
  have h1 := h.lo
  have h2 := h.few
  refine ⟨by show 0 ≤ S.ops + 1; omega, by show S.ops + 1 ≤ 65536; omega, by show ((S.chs ++ [c]).length : Int) ≤ S.ops + 1; simp; omega, .inr hm, h.iss, hs, h.szs, ?_, fun k hk' => ?_⟩
  · show runs (S.chs ++ [c]) (dn S.syn) = dn (c.run (dn S.now))
    rw [runs_snoc, h.road, dn_id hm]
  · show Fine (runs ((S.chs ++ [c]).take k) (dn S.syn)) fil'
    have hk2 : k ≤ S.chs.length + 1 := by simpa using hk'
    by_cases e : k ≤ S.chs.length
    · rw [List.take_append_of_le_length e]
      exact (h.fine k e).more hk
    · rw [List.take_of_length_le (by simp; omega), runs_snoc, h.road]
      exact hf

/-- The directory is synced. -/
theorem AD.ok.sync {S : AD} (h : S.ok) (hop : S.ops < 65536) : AD.ok { S with syn := dn S.now, chs := [], ops := S.ops + 1 } := by
  have h1 := h.lo
  have hm := dn_map h.isn
  refine ⟨by show 0 ≤ S.ops + 1; omega, by show S.ops + 1 ≤ 65536; omega, by show ((0 : Nat) : Int) ≤ S.ops + 1; omega, h.isn, .inr hm, h.szn, by show Maps.size (dn S.now) ≤ 64; rw [dn_sz h.isn]; exact h.szn, ?_, fun k hk => ?_⟩
  · show dn (dn S.now) = dn S.now
    exact dn_id hm
  · show Fine (runs (([] : List Ch).take k) (dn (dn S.now))) S.fil
    rw [List.take_nil, dn_id hm]
    exact h.now_fine

/-- Other files, or more, and maybe one more operation. -/
theorem AD.ok.files {S : AD} (h : S.ok) (fil' : Nat → Option (List Int × Nat)) (n : Int) (hn : S.ops ≤ n) (hn2 : n ≤ 65536) (hk : ∀ f x, S.fil f = some x → ∃ y, fil' f = some y) : AD.ok { S with fil := fil', ops := n } :=
  ⟨by have := h.lo; show 0 ≤ n; omega, hn2, by have := h.few; show (S.chs.length : Int) ≤ n; omega, h.isn, h.iss, h.szn, h.szs, h.road, fun k hk' => (h.fine k hk').more hk⟩
end Go.Proofs.YtgifcgniphncdaaGreatDoor

/-
  The disk in memory and the disk told apart from it, held together.
-/
set_option linter.unusedVariables false
set_option linter.unusedSimpArgs false
namespace Go.Proofs.YtgifcgniphncdaaGreatDoor
open Go.RowKit Go.Maps

theorem ChAt.same2 {w w' : World} {c : Value} {ch : Ch} (h : ChAt w c ch) (e : ∀ (j : Nat) (cur : Array Value) (t : TypeId), t = 9 ∨ t = 107 → w.heap[j]? = some (Obj.cells cur t (0, 0)) → w'.heap[j]? = w.heap[j]?) : ChAt w' c ch := by
  cases ch with
  | mk s f =>
    obtain ⟨fb, nb, rfl, h1, h2, h3⟩ := h
    exact ⟨fb, nb, rfl, (e _ _ _ (.inl rfl) h1).trans h1, (e _ _ _ (.inr rfl) h2).trans h2, h3⟩
  | del s =>
    obtain ⟨nb, rfl, h1, h3⟩ := h
    exact ⟨nb, rfl, (e _ _ _ (.inl rfl) h1).trans h1, h3⟩
  | ren s t =>
    obtain ⟨nb, mb, rfl, h1, h2, h3, h4⟩ := h
    exact ⟨nb, mb, rfl, (e _ _ _ (.inl rfl) h1).trans h1, (e _ _ _ (.inl rfl) h2).trans h2, h3, h4⟩

section
variable {w w' : World} {B d : Nat} {S : AD} {nb sb : Option Nat} {sv : Value} {cs : List Value} {vf : Nat → Value}

theorem dir_lt {mb : Option Nat} {D : DataW Value} (h : Dir w mb D) : ∀ j, mb = some j → j < w.heap.size := fun j e => by
  rcases h with ⟨rfl, _⟩ | ⟨b, n, rfl, ho⟩
  · cases e
  · cases e; exact ho.lt
theorem dir_cells {mb : Option Nat} {D : DataW Value} (h : Dir w mb D) {j : Nat} {cur : Array Value} {t : TypeId} {fr : Nat × Nat} (hc : w.heap[j]? = some (Obj.cells cur t fr)) : mb ≠ some j := fun e => by
  rcases h with ⟨rfl, _⟩ | ⟨b, n, rfl, ho⟩
  · cases e
  · cases e; exact own_not_cells ho hc rfl
/-- A row of changes lies in no box, file or row of bytes. -/
theorem row_cells {v : Value} {k : Nat} (h : w.ownsRow B 106 1 v k cs) {j : Nat} {cur : Array Value} {t : TypeId} (ht : t ≠ 106) (hc : w.heap[j]? = some (Obj.cells cur t (0, 0))) : v.ownBlock ≠ some j := fun e => by
  obtain ⟨cur', hh, _⟩ := row_block h e
  rw [hc] at hh
  simp at hh
  exact ht hh.2
theorem dk_cells {now syn since : Value} {ops cutAt : Int} {cuts gone : Bool} (h : Dk w d now syn since ops cutAt cuts gone) {j : Nat} {cur : Array Value} {t : TypeId} (ht : t ≠ 76) (hc : w.heap[j]? = some (Obj.cells cur t (0, 0))) : j ≠ d := fun e => by
  unfold Dk at h
  rw [e, h] at hc
  simp at hc
  exact ht hc.2.symm

end
end Go.Proofs.YtgifcgniphncdaaGreatDoor

/-
  The operations of the disk, held against the disk told apart from memory.
-/
set_option linter.unusedVariables false
set_option linter.unusedSimpArgs false
namespace Go.Proofs.YtgifcgniphncdaaGreatDoor
open Go.RowKit Go.Maps

section
variable {w w' : World} {B d : Nat} {S : AD}

/-- What a name leads to, now. -/
theorem AD.ok.lead (ok : S.ok) (s : ByteArray) : (Maps.has (dn S.now) (kl s) = false ∧ Leads S.now s none) ∨ ∃ f x, Maps.has (dn S.now) (kl s) = true ∧ (∀ z, (dn S.now).atKey (kl s) z = pt f) ∧ Leads S.now s (some ⟨f, 0, none⟩) ∧ S.fil f = some x := by
  have e : ∀ p, Leads (dn S.now) s p → Leads S.now s p := fun p h => by
    have := dn_at ok.isn (kl s) (.held (.pointer none))
    exact this.symm.trans h
  rcases ok.now_fine.lead s with ⟨h1, h2⟩ | ⟨f, x, h1, h2, h3, h4⟩
  · exact .inl ⟨h1, e _ h2⟩
  · exact .inr ⟨f, x, h1, h2, e _ h3, h4⟩

/-- A file's bytes are synced. -/
def AD.synced (S : AD) (f : Nat) (x : List Int × Nat) : AD := { S with fil := fun g => if g = f then some (x.1, x.1.length) else S.fil g, ops := S.ops + 1 }

/-- The directory is synced. -/
def AD.dirSynced (S : AD) : AD := { S with syn := dn S.now, chs := [], ops := S.ops + 1 }

end
end Go.Proofs.YtgifcgniphncdaaGreatDoor

/-
  Append, held against the disk told apart from memory.
-/
set_option linter.unusedVariables false
set_option linter.unusedSimpArgs false
namespace Go.Proofs.YtgifcgniphncdaaGreatDoor
open Go.RowKit Go.Maps

def upd (fil : Nat → Option (List Int × Nat)) (f : Nat) (x : List Int × Nat) (g : Nat) : Option (List Int × Nat) := if g = f then some x else fil g
theorem upd_same (fil : Nat → Option (List Int × Nat)) (f : Nat) (x : List Int × Nat) : upd fil f x f = some x := if_pos rfl
theorem upd_other (fil : Nat → Option (List Int × Nat)) {f g : Nat} (x : List Int × Nat) (h : g ≠ f) : upd fil f x g = fil g := if_neg h

/-- A file is made, and has these bytes. -/
def AD.made (S : AD) (s : ByteArray) (f : Nat) (xs : List Int) : AD := { S with now := (Ch.mk s f).run (dn S.now), chs := S.chs ++ [.mk s f], fil := upd S.fil f (xs, 0), ops := S.ops + 1 }
/-- A file has these bytes more. -/
def AD.grown (S : AD) (f : Nat) (y : List Int × Nat) (xs : List Int) : AD := { S with fil := upd S.fil f (y.1 ++ xs, y.2), ops := S.ops + 1 }

section
variable {w w' : World} {B d : Nat} {S : AD}

end
end Go.Proofs.YtgifcgniphncdaaGreatDoor

/-
  The names that there are.
-/
set_option linter.unusedVariables false
set_option linter.unusedSimpArgs false
namespace Go.Proofs.YtgifcgniphncdaaGreatDoor
open Go.RowKit Go.Maps Go.Sort Go.Shelf

set_option maxHeartbeats 2000000 in
theorem names_any {w : World} {d b n : Nat} {syn since : Value} {ops cutAt : Int} {cuts gone : Bool} {D : DataW Value} (h : Dk w d (.map (some b)) syn since ops cutAt cuts gone) (ho : w.ownsMap Tryz.prog 9 RV b n D) (hD : Maps.size D ≤ 1000000) :
    Calls Tryz.prog 27 #[.pointer (some ⟨d, 0, none⟩)] w fun e w' => ∃ (v : Value) (ss : List (List UInt8)), e = .returned v ∧ ss.Perm (strKeys D) ∧
      w'.ownsRow w.heap.size 9 1 v ss.length ((ss.mergeSort (fun x y => decide (x ≤ y))).map encStr) ∧ (v = .slice none 0 0 ↔ ss = []) ∧ Below w.heap.size w w' := by
  refine (callsIn_wide (n := 6)).1 ?_
  obtain ⟨c0, c1, c2, c3, c4, c5, c6⟩ := h.cells
  have cK : ∀ W, CallsIn Fence.wide 5 Tryz.prog 62 #[.map (some b)] W _ := fun W => keys_any (some b) W
  have cS := sortedKeys_any b n D RV w ho (by unfold maxLen; omega) (by omega)
  have hfK : Fence.wide.fn 62 := trivial
  have hfS : Fence.wide.fn 61 := trivial
  refine callsIn_of_wp Tryz.func27 rfl trivial ?_ rfl
  simp only [Tryz.ntmps27, List.size_toArray, List.length_cons, List.length_nil, Nat.reduceAdd, Nat.reduceSub, Array.replicate_succ, Array.replicate_zero, List.push_toArray, List.append_toArray, List.nil_append, List.cons_append]
  gi_wp2_with (first
    | (gi_at_call 62; refine (cK _).mono ?_; rintro e w' ⟨rfl, rfl⟩)
    | (gi_at_call 61; refine cS.mono ?_; rintro e w' ⟨v, ss, rfl, hS, hrow, hnil, hb⟩))
  go_ret
  exact ⟨v, ss, rfl, hS, Go.Joins.ownsRow_le hrow (by simp), hnil, ((Below.refl _ w).alloc (Nat.le_refl _) _).trans (hb.mono (by simp))⟩
end Go.Proofs.YtgifcgniphncdaaGreatDoor
