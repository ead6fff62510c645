/-
  What a crash leaves of a file.
-/
import Derived.Test.YthfcjfhaoabdeaaGreatDoorRz42
import Derived.Deep.RegionHeld3
import Derived.Test.YthfcjfhaoabdeaaGreatDoorRz44
set_option linter.unusedVariables false
set_option linter.unusedSimpArgs false
namespace Go.Proofs.YthfcjfhaoabdeaaGreatDoor
open Go.RowKit Go.Maps

/-- A byte turned. -/
def tb (x : Int) : Int := ((x.toNat ^^^ 255 : Nat) : Int)
end Go.Proofs.YthfcjfhaoabdeaaGreatDoor

/-
  A directory's copy.
-/
set_option linter.unusedVariables false
set_option linter.unusedSimpArgs false
namespace Go.Proofs.YthfcjfhaoabdeaaGreatDoor
open Go.RowKit Go.Maps

theorem makeMapN (n : Nat) (w : World) : (Instr.makeMap 74 (some (.int .i64 (n : Int)))).run Tryz.prog w = .ok (.map (some w.heap.size)) (w.alloc (.map #[] 0)) := by kernel_rfl

theorem merge_self {w : World} {mb : Option Nat} {D : DataW Value} (h : Dir w mb D) : Lib.mergeD (.map []) D = dn D := by
  rcases h with ⟨rfl, rfl⟩ | ⟨b, n, rfl, ho⟩
  · rfl
  · rw [own_dn ho]
    have cD := ho.canonK dirKeyed
    have cE : CanonK (KeysOf Tryz.prog 9) (DataW.map [] : DataW Value) := ⟨[], rfl, List.Pairwise.nil, fun p hp => by cases hp⟩
    have hc := cD
    obtain ⟨es, rfl, hp, hk⟩ := hc
    have hkl : ∀ p ∈ es, WideAt.IsKeyLit p.1 := fun p hp => dirKeyed.one.key (hk p hp)
    have hne : es.Pairwise (fun p q => p.1 ≠ q.1) := hp.imp fun {a b} h e => by
      rw [e] at h
      exact absurd h (by rw [WideShapes.before_irrefl]; simp)
    refine ext (H := Value) ((canonK_fold dirKeyed.one es _ hk cE).canon dirKeyed.one) (cD.canon dirKeyed.one) (fun k => ?_) (fun k z _ => ?_)
    · show has (es.foldl (fun D p => D.put p.1 p.2) (DataW.map [])) k = _
      rw [has_foldPut k es _ ⟨_, rfl⟩ hkl]
      rfl
    · show (es.foldl (fun D p => D.put p.1 p.2) (DataW.map [])).atKey k z = _
      rw [atKey_foldPut k z es _ ⟨_, rfl⟩ hkl hne]
      rfl

set_option maxHeartbeats 1000000 in
theorem copied_any {w : World} {mb : Option Nat} {D : DataW Value} (h : Dir w mb D) (hD : Maps.size D ≤ 1000000) :
    Calls Tryz.prog 182 #[.map mb] w fun e w' => ∃ b, e = .returned (.map (some b)) ∧ w.heap.size ≤ b ∧ w'.ownsMap Tryz.prog 9 RV b (Maps.size D) (dn D) ∧ Below w.heap.size w w' := by
  have hlen := h.len 3
  have hmk := makeMapN (Maps.size D) w
  have hmade := World.ownsMap_made w Tryz.prog 9 RV
  have hb1 : Below w.heap.size w (w.alloc (.map #[] 0)) := (Below.refl _ _).alloc (Nat.le_refl _) _
  have hjm : ∀ j, mb = some j → j < w.heap.size := fun j e => by
    rcases h with ⟨rfl, _⟩ | ⟨b, n, rfl, ho⟩
    · cases e
    · cases e; exact ho.lt
  have h1 : Dir (w.alloc (.map #[] 0)) mb D := Dir.same h fun j e => hb1.block j (hjm j e)
  have hcp := AnyX.maps_Copy_opt copyL dirKeyed RV w.heap.size 0 mb (.map []) D (w.alloc (.map #[] 0)) hmade h1 (fun e => by have := hjm _ e; omega) (by unfold maxLen; omega)
  change Calls Tryz.prog 237 _ _ _ at hcp
  rw [merge_self h, Nat.zero_add] at hcp
  go_enter Tryz.func182, Tryz.ntmps182
  go_wp2_with fail
  refine hcp.mono ?_
  rintro e w2 ⟨rfl, ho2, hg2⟩
  go_wp2
  go_ret
  exact ⟨_, rfl, Nat.le_refl _, ho2, hb1.trans ⟨hg2.os, hg2.tape, hg2.output, hg2.size, fun k hk => hg2.block k (by simp; omega) (by simp; omega)⟩⟩
end Go.Proofs.YthfcjfhaoabdeaaGreatDoor

/-
  What changes of a directory do, one behind the other.
-/
set_option linter.unusedVariables false
set_option linter.unusedSimpArgs false
namespace Go.Proofs.YthfcjfhaoabdeaaGreatDoor
open Go.RowKit Go.Maps

/-- A change of a directory. -/
inductive Ch where
  | mk (s : ByteArray) (f : Nat)
  | del (s : ByteArray)
  | ren (s t : ByteArray)

def kl (s : ByteArray) : Lit := .string s.data.toList
def pt (f : Nat) : DataW Value := .held (.pointer (some ⟨f, 0, none⟩))
def no : DataW Value := .held (.pointer none)

def Ch.run : Ch → DataW Value → DataW Value
  | .mk s f, D => D.put (kl s) (pt f)
  | .del s, D => D.del (kl s)
  | .ren s t, D => (D.del (kl s)).put (kl t) (D.atKey (kl s) no)

def runs (l : List Ch) (D : DataW Value) : DataW Value := l.foldl (fun D c => c.run D) D
def dlCl (n : Nat) : Value := .func (.func 0) #[] #[.pointer (some ⟨n, 0, none⟩)]
def rnCl (n m : Nat) : Value := .func (.func 0) #[] #[.pointer (some ⟨n, 0, none⟩), .pointer (some ⟨m, 0, none⟩)]

/-- A closure that makes this change. -/
def ChAt (w : World) (c : Value) : Ch → Prop
  | .mk s f => ∃ fb nb, c = mkCl fb nb ∧ Box w nb (.string s) 9 ∧ Box w fb (.pointer (some ⟨f, 0, none⟩)) 141 ∧ s.size ≤ 16
  | .del s => ∃ nb, c = dlCl nb ∧ Box w nb (.string s) 9 ∧ (s.size ≤ 16 ∧ False)
  | .ren s t => ∃ nb mb, c = rnCl nb mb ∧ Box w nb (.string s) 9 ∧ Box w mb (.string t) 9 ∧ s.size ≤ 16 ∧ (t.size ≤ 16 ∧ False)

end Go.Proofs.YthfcjfhaoabdeaaGreatDoor

/-
  SyncDir; Append where it is not done, and to a file that is there.
-/
set_option linter.unusedVariables false
set_option linter.unusedSimpArgs false
namespace Go.Proofs.YthfcjfhaoabdeaaGreatDoor
open Go.RowKit Go.Maps

set_option maxHeartbeats 1000000 in
theorem syncDir_full {w : World} {d : Nat} {now syn since : Value} {ops cutAt : Int} {cuts gone : Bool} (h : Dk w d now syn since ops cutAt cuts gone) (hon : On ops cutAt cuts gone) (hops : 65536 ≤ ops) :
    Calls Tryz.prog 139 #[.pointer (some ⟨d, 0, none⟩)] w fun e w' => e = .returned (.int .i64 23) ∧ ∃ q, w' = w.drewN q := by
  have hst := start_none h hon
  have hworn : ∀ q, Calls Tryz.prog 181 #[.pointer (some ⟨d, 0, none⟩)] (w.drewN q) fun e w' => e = .returned (.bool true) ∧ w' = w.drewN q := fun q => by
    have := worn_any (w := w.drewN q) (h.same rfl)
    rwa [show decide (65536 ≤ ops) = true by simpa using hops] at this
  go_enter Tryz.func139, Tryz.ntmps139
  go_wp2_with fail
  refine hst.mono ?_
  rintro e w' ⟨rfl, q, rfl⟩
  go_wp2_with fail
  refine (hworn q).mono ?_
  rintro e w' ⟨rfl, rfl⟩
  go_wp2
  go_ret
  exact ⟨rfl, _, rfl⟩

set_option maxHeartbeats 2000000 in
theorem syncDir_ok {w : World} {d : Nat} {mb : Option Nat} {syn since : Value} {ops cutAt : Int} {cuts gone : Bool} {D : DataW Value} (h : Dk w d (.map mb) syn since ops cutAt cuts gone) (hon : On ops cutAt cuts gone) (hd : Dir w mb D) (hD : Maps.size D ≤ 1000000) (ho0 : 0 ≤ ops) (hops : ops < 65536) :
    Calls Tryz.prog 139 #[.pointer (some ⟨d, 0, none⟩)] w fun e w' => ∃ b, e = .returned (.int .i64 0) ∧ w.heap.size ≤ b ∧ Dk w' d (.map mb) (.map (some b)) (.slice none 0 0) (ops + 1) cutAt cuts gone ∧
      w'.ownsMap Tryz.prog 9 RV b (Maps.size D) (dn D) ∧ Fr (fun j => j = d) w w' := by
  have hlt := h.lt
  have hst := start_none h hon
  have hworn : ∀ q, Calls Tryz.prog 181 #[.pointer (some ⟨d, 0, none⟩)] (w.drewN q) fun e w' => e = .returned (.bool false) ∧ w' = w.drewN q := fun q => by
    have := worn_any (w := w.drewN q) (h.same rfl)
    rwa [show decide (65536 ≤ ops) = false by simp; omega] at this
  go_enter Tryz.func139, Tryz.ntmps139
  go_wp2_with fail
  refine hst.mono ?_
  rintro e w' ⟨rfl, q, rfl⟩
  go_wp2_with fail
  refine (hworn q).mono ?_
  rintro e w' ⟨rfl, rfl⟩
  have b1 : Below w.heap.size w (w.drewN q) := ⟨rfl, rfl, rfl, Nat.le_refl _, fun _ _ => rfl⟩
  have h1 : Dk (w.drewN q) d (.map mb) syn since ops cutAt cuts gone := h.same rfl
  have d1 : Dir (w.drewN q) mb D := Dir.same hd fun _ _ => rfl
  have s1 : (w.drewN q).heap.size = w.heap.size := rfl
  generalize w.drewN q = W at b1 h1 d1 s1 ⊢
  have hcop := copied_any d1 hD
  obtain ⟨c0, c1, c2, c3, c4, c5, c6⟩ := h1.cells
  clear hst hworn
  go_wp2_with fail
  refine hcop.mono ?_
  rintro e w2 ⟨b, rfl, hb, o2, b2⟩
  have h2 := h1.same (b2.block d (by omega))
  clear c0 c1 c2 c3 c4 c5 c6
  obtain ⟨c0, c1, c2, c3, c4, c5, c6⟩ := h2.cells
  have fr2 := h2.free
  have z1 := fr2 1
  have z2 := fr2 2
  have z3 := fr2 3
  have S1 := hide2 (((h2.set.2.1 (.map (some b))).set.2.2.1 (.slice none 0 0)).set.2.2.2.1 (ops + 1))
  have hbd : b ≠ d := by omega
  have G := hide2 ((((Fr.below (F := fun j => j = d) (w := w) (w' := w2) (b1.trans (b2.mono (by omega)))).setCell (p := ⟨d, 1, none⟩) (.inl rfl) (.map (some b))).setCell (p := ⟨d, 2, none⟩) (.inl rfl) (.slice none 0 0)).setCell (p := ⟨d, 3, none⟩) (.inl rfl) (.int .i64 (ops + 1)))
  have O := hide2 (((o2.setCell (a := ⟨d, 1, none⟩) hbd (.map (some b))).setCell (a := ⟨d, 2, none⟩) hbd (.slice none 0 0)).setCell (a := ⟨d, 3, none⟩) hbd (.int .i64 (ops + 1)))
  clear hcop h1 d1 o2 b2 b1 fr2
  go_wp2
  go_ret
  exact ⟨b, rfl, by omega, S1.out, O.out, G.out⟩

set_option maxHeartbeats 2000000 in
/-- Append, where there is no room. -/
theorem append_full {w : World} {d : Nat} {mb : Option Nat} {syn since : Value} {ops cutAt : Int} {cuts gone : Bool} {D : DataW Value} (h : Dk w d (.map mb) syn since ops cutAt cuts gone) (hon : On ops cutAt cuts gone) (hd : Dir w mb D)
    (s : ByteArray) (hn : isName s = true) (p : Option Addr) (hl : Leads D s p) (ao : Option Addr) (len cap : Nat) (hlen : len ≤ maxLen)
    (hf : ∀ a, p = some a → ∃ f ao' l c sy, a = ⟨f, 0, none⟩ ∧ Fl w f (.slice ao' l c) sy ∧ l ≤ 262144 ∧ (ops < 65536 → 262144 < len + l)) (hnew : p = none → ops < 65536 → 262144 < len ∨ 64 ≤ Maps.size D) :
    Calls Tryz.prog 177 #[.pointer (some ⟨d, 0, none⟩), .string s, .slice ao len cap] w fun e w' => e = .returned (.int .i64 23) ∧ Below w.heap.size w w' := by
  have hlt := h.lt
  have hz := isName_size hn
  have hs : s.size ≤ maxLen := by unfold maxLen; omega
  have h1 : Dk (w.alloc (.cells #[.string s] 9)) d (.map mb) syn since ops cutAt cuts gone := h.same (Below.heap_alloc _ _ d hlt)
  have hst := start_one h1 hon w.heap.size 1 s hs (by simp) 0 (by simp [hn])
  have hjm : ∀ j, mb = some j → j < w.heap.size := fun j e => by
    rcases hd with ⟨rfl, _⟩ | ⟨b, n, rfl, ho⟩
    · cases e
    · cases e; exact ho.lt
  go_enter Tryz.func177, Tryz.ntmps177
  go_wp2_with fail
  refine hst.mono ?_
  rintro e w' ⟨rfl, q, rfl⟩
  have b1 : Below w.heap.size w ((w.alloc (.cells #[.string s] 9)).drewN q) := ((Below.refl _ _).alloc (Nat.le_refl _) _).trans ⟨rfl, rfl, rfl, Nat.le_refl _, fun _ _ => rfl⟩
  generalize (w.alloc (.cells #[.string s] 9)).drewN q = W at b1 ⊢
  clear hst h1
  have h1 : Dk W d (.map mb) syn since ops cutAt cuts gone := h.same (b1.block d hlt)
  have d1 : Dir W mb D := Dir.same hd fun j e => b1.block j (hjm j e)
  have hlook := d1.look s hs p hl
  have hworn := worn_any h1
  obtain ⟨c0, c1, c2, c3, c4, c5, c6⟩ := h1.cells
  by_cases ho : 65536 ≤ ops
  · rw [show decide (65536 ≤ ops) = true by simpa using ho] at hworn
    go_wp2_with (go_at_call 181; refine hworn.mono ?_; rintro e w' ⟨rfl, rfl⟩)
    go_ret
    exact ⟨rfl, b1⟩
  · rw [show decide (65536 ≤ ops) = false by simpa using ho] at hworn
    cases p with
    | none =>
      have hroom := room_new h1 d1 len hlen
      rw [show (decide (len ≤ 262144) && decide (Maps.size D < 64)) = false by have := hnew rfl (by omega); simp; omega] at hroom
      have hl63 : (len : Int) ≤ 9223372036854775807 := by unfold maxLen at hlen; omega
      go_wp2_with (first
        | (go_at_call 181; refine hworn.mono ?_; rintro e w' ⟨rfl, rfl⟩)
        | (go_at_call 232; refine hroom.mono ?_; rintro e w' ⟨rfl, rfl⟩)
        | fail)
      go_ret
      exact ⟨rfl, b1⟩
    | some a =>
      obtain ⟨f, ao', l, c, sy, rfl, hF, hl2, hbig⟩ := hf a rfl
      have hroom := room_old (p := .pointer (some ⟨d, 0, none⟩)) ((b1.block f hF.lt).trans hF : Fl W f (.slice ao' l c) sy) (by unfold maxLen; omega) len hlen
      rw [show decide (len + l ≤ 262144) = false by have := hbig (by omega); simp; omega] at hroom
      have hl63 : (len : Int) ≤ 9223372036854775807 := by unfold maxLen at hlen; omega
      go_wp2_with (first
        | (go_at_call 181; refine hworn.mono ?_; rintro e w' ⟨rfl, rfl⟩)
        | (go_at_call 232; refine hroom.mono ?_; rintro e w' ⟨rfl, rfl⟩)
        | fail)
      go_ret
      exact ⟨rfl, b1⟩
end Go.Proofs.YthfcjfhaoabdeaaGreatDoor

/-
  Append to a file that is there.
-/
set_option linter.unusedVariables false
set_option linter.unusedSimpArgs false
namespace Go.Proofs.YthfcjfhaoabdeaaGreatDoor
open Go.RowKit Go.Maps

set_option maxHeartbeats 4000000 in
set_option maxRecDepth 100000 in
theorem append_old {w : World} {d B : Nat} {mb : Option Nat} {syn since : Value} {ops cutAt : Int} {cuts gone : Bool} {D : DataW Value}
    (h : Dk w d (.map mb) syn since ops cutAt cuts gone) (hon : On ops cutAt cuts gone) (hd : Dir w mb D) (hB : B ≤ w.heap.size) (ho0 : 0 ≤ ops) (hops : ops < 65536)
    (s : ByteArray) (hn : isName s = true) (f sy : Nat) (hl : Leads D s (some ⟨f, 0, none⟩)) (fv : Value) (ys : List Int) (hf : Fl w f fv sy) (hown : Own w B fv ys) (hby : Byt ys)
    (ao : Option Addr) (len cap : Nat) (xs : List Int) (hx : Sl w ao len cap xs) (hfit : len + ys.length ≤ 262144) :
    Calls Tryz.prog 177 #[.pointer (some ⟨d, 0, none⟩), .string s, .slice ao len cap] w fun e w' =>
      ∃ fv', e = .returned (.int .i64 0) ∧ Fl w' f fv' sy ∧ Own w' B fv' (ys ++ xs) ∧ (fv'.ownBlock = fv.ownBlock ∨ ∃ j, fv'.ownBlock = some j ∧ w.heap.size ≤ j) ∧ Dk w' d (.map mb) syn since (ops + 1) cutAt cuts gone ∧
        Fr (fun j => j = d ∨ j = f ∨ fv.ownBlock = some j) w w' := by
  have hlt := h.lt
  have hz := isName_size hn
  have hs : s.size ≤ maxLen := by unfold maxLen; omega
  have h1 : Dk (w.alloc (.cells #[.string s] 9)) d (.map mb) syn since ops cutAt cuts gone := h.same (Below.heap_alloc _ _ d hlt)
  have hst := start_one h1 hon w.heap.size 1 s hs (by simp) 0 (by simp [hn])
  have hlen : len ≤ maxLen := by unfold maxLen; omega
  obtain ⟨i0, hi, hz0, hz1, hz2⟩ := info_parts Tryz.info5
  have hjm : ∀ j, mb = some j → j < w.heap.size := fun j e => by
    rcases hd with ⟨rfl, _⟩ | ⟨b, n, rfl, ho⟩
    · cases e
    · cases e; exact ho.lt
  have hjr : ∀ j, fv.ownBlock = some j → j < w.heap.size ∧ j ≠ d ∧ j ≠ f := fun j e => by
    obtain ⟨cur, hh, _, hl⟩ := row_block hown e
    refine ⟨hl, ?_, ?_⟩
    · rintro rfl
      unfold Dk at h
      rw [h] at hh
      simp at hh
    · rintro rfl
      unfold Fl at hf
      rw [hf] at hh
      simp at hh
  have hdf : d ≠ f := fun e => by
    unfold Dk at h; unfold Fl at hf
    rw [e, hf] at h
    simp at h
  have hfd := hdf.symm
  go_enter Tryz.func177, Tryz.ntmps177
  go_wp2_with fail
  refine hst.mono ?_
  rintro e w' ⟨rfl, q, rfl⟩
  have b1 : Below w.heap.size w ((w.alloc (.cells #[.string s] 9)).drewN q) := ((Below.refl _ _).alloc (Nat.le_refl _) _).trans ⟨rfl, rfl, rfl, Nat.le_refl _, fun _ _ => rfl⟩
  generalize (w.alloc (.cells #[.string s] 9)).drewN q = W at b1 ⊢
  clear hst h1
  have h1 : Dk W d (.map mb) syn since ops cutAt cuts gone := h.same (b1.block d hlt)
  have d1 : Dir W mb D := Dir.same hd fun j e => b1.block j (hjm j e)
  have f1 : Fl W f fv sy := (b1.block f hf.lt).trans hf
  have own1 : Own W B fv ys := row_same hown fun j e => b1.block j (hjr j e).1
  have x1 := hx.below b1
  obtain ⟨aof, lf, capf, rfl, slf, _⟩ := own1.sl' hby
  have hlf : lf = ys.length := slf.1.symm
  have hlook := d1.look s hs _ hl
  have hworn := worn_any h1
  rw [show decide (65536 ≤ ops) = false by simp; omega] at hworn
  have hroom := room_old (p := .pointer (some ⟨d, 0, none⟩)) f1 (by unfold maxLen; omega) len hlen
  rw [show decide (len + lf ≤ 262144) = true by simp; omega] at hroom
  have hs1 := b1.size
  have hl63 : (len : Int) ≤ 262144 := by omega
  obtain ⟨c0, c1, c2, c3, c4, c5, c6⟩ := h1.cells
  have cf := f1.cells.1
  clear hlf
  go_wp2_with (first
    | (go_at_call 181; refine hworn.mono ?_; rintro e w' ⟨rfl, rfl⟩)
    | (go_at_call 232; refine hroom.mono ?_; rintro e w' ⟨rfl, rfl⟩)
    | (at_builtin
       refine wpList_append_sl_at rfl _ _ 82 rfl B i0 Tryz.underlying82 hi hz0 hz1 hz2 (.slice aof lf capf) ys rfl own1 ao len cap xs rfl x1 (by omega) (by omega) ?_
       intro fv' w3 own3 gr3 bl3
       have f3 : Fl w3 f (.slice aof lf capf) sy := (gr3.block f f1.lt (fun e => (hjr f e.symm).2.2 rfl)).trans f1
       have cf3 := f3.cells.1
       have zf3 := f3.free 0
       have h3 : Dk w3 d (.map mb) syn since ops cutAt cuts gone := h1.same (gr3.block d h1.lt (fun e => (hjr d e.symm).2.1 rfl))
       have k3 := h3.cells.2.2.2.1
       have u3 := h3.free 3
       obtain ⟨ao3, l3, cap3, rfl, sl3, ne3⟩ := own3.sl' (hby.append x1.2.2.2.1)
       go_frame)
    | go_in)
  go_ret
  have S3 := gr3.size
  have hf4 : Fl (w3.setCell ⟨f, 0, none⟩ (.slice ao3 l3 cap3)) f (.slice ao3 l3 cap3) sy := f3.set0 _
  have hd4 : Dk (w3.setCell ⟨f, 0, none⟩ (.slice ao3 l3 cap3)) d (.map mb) syn since ops cutAt cuts gone := h3.same (Below.heap_setCell _ _ _ _ (by simpa using hdf))
  have hd5 := hd4.set.2.2.2.1 (ops + 1)
  have keep3 : ∀ j, j ≠ f → j ≠ d → ((w3.setCell ⟨f, 0, none⟩ (.slice ao3 l3 cap3)).setCell ⟨d, 3, none⟩ (.int .i64 (ops + 1))).heap[j]? = w3.heap[j]? := fun j e1 e2 =>
    (Below.heap_setCell _ _ _ _ (by simpa using e2)).trans (Below.heap_setCell _ _ _ _ (by simpa using e1))
  have fl1 := f1.lt
  have dl1 := h1.lt
  refine ⟨.slice ao3 l3 cap3, rfl, (Below.heap_setCell _ _ _ _ (by simpa using hfd)).trans hf4, row_same own3 fun j e => keep3 j ?_ ?_, ?_, hd5, ?_⟩
  · rcases bl3 with e' | e'
    · exact (hjr j (e' ▸ e)).2.2
    · rw [e'] at e; cases e; omega
  · rcases bl3 with e' | e'
    · exact (hjr j (e' ▸ e)).2.1
    · rw [e'] at e; cases e; omega
  · rcases bl3 with e' | e'
    · exact .inl e'
    · exact .inr ⟨_, e', by omega⟩
  · have G1 : Fr (fun j => j = d ∨ j = f ∨ (Value.slice aof lf capf).ownBlock = some j) w w3 := (Fr.below b1).trans (G := fun j => (Value.slice aof lf capf).ownBlock = some j) (Fr.grown gr3 (fun j e => e)) (fun j e => .inl (.inr (.inr e)))
    exact (G1.setCell (.inl (.inr (.inl rfl))) _).setCell (.inl (.inl rfl)) _
end Go.Proofs.YthfcjfhaoabdeaaGreatDoor

/-
  The disk, told apart from memory: directories, changes, files.
-/
set_option linter.unusedVariables false
set_option linter.unusedSimpArgs false
namespace Go.Proofs.YthfcjfhaoabdeaaGreatDoor
open Go.RowKit Go.Maps

theorem at_not_has {D : DataW Value} {k : Lit} (h : Maps.has D k = false) (z : DataW Value) : D.atKey k z = z := atKey_of_not_has h z

/-- Each name of a directory leads to a file. -/
def Fine (D : DataW Value) (fil : Nat → Option (List Int × Nat)) : Prop := ∀ s : ByteArray, Maps.has D (kl s) = true → ∃ f x, (∀ z, D.atKey (kl s) z = pt f) ∧ fil f = some x ∧ isName s = true

theorem kl_inj {s t : ByteArray} (h : kl s = kl t) : s = t := by
  injection h with e
  exact ByteArray.ext (Array.toList_inj.1 e)

/-- What a name leads to. -/
theorem Fine.lead {D : DataW Value} {fil : Nat → Option (List Int × Nat)} (h : Fine D fil) (s : ByteArray) : (Maps.has D (kl s) = false ∧ Leads D s none) ∨ ∃ f x, Maps.has D (kl s) = true ∧ (∀ z, D.atKey (kl s) z = pt f) ∧ Leads D s (some ⟨f, 0, none⟩) ∧ fil f = some x := by
  cases e : Maps.has D (kl s) with
  | true =>
    obtain ⟨f, x, h1, h2, _⟩ := h s e
    exact .inr ⟨f, x, rfl, h1, h1 _, h2⟩
  | false => exact .inl ⟨rfl, at_not_has e _⟩

theorem kl_lit (s : ByteArray) : WideAt.IsKeyLit (kl s) := trivial

theorem Fine.put {D : DataW Value} {fil : Nat → Option (List Int × Nat)} (h : Fine D fil) (hm : IsMap D) (s : ByteArray) (f : Nat) (x : List Int × Nat) (hf : fil f = some x) (hn : isName s = true) : Fine (D.put (kl s) (pt f)) fil := fun t ht => by
  by_cases e : kl t = kl s
  · rw [e]
    exact ⟨f, x, fun z => atKey_put_same hm (kl_lit s) _ _, hf, by rw [kl_inj e]; exact hn⟩
  · rw [has_put_other e] at ht
    obtain ⟨g, y, h1, h2, h3⟩ := h t ht
    exact ⟨g, y, fun z => (atKey_put_other e _ _).trans (h1 z), h2, h3⟩

theorem Fine.more {D : DataW Value} {fil fil' : Nat → Option (List Int × Nat)} (h : Fine D fil) (hk : ∀ f x, fil f = some x → ∃ y, fil' f = some y) : Fine D fil' := fun s hs => by
  obtain ⟨f, x, h1, h2, h3⟩ := h s hs
  obtain ⟨y, hy⟩ := hk f x h2
  exact ⟨f, y, h1, hy, h3⟩

theorem fine_empty (fil : Nat → Option (List Int × Nat)) : Fine (.map []) fil := fun s hs => by cases hs

theorem size_put_le (D : DataW Value) (k : Lit) (v : DataW Value) : Maps.size (D.put k v) ≤ Maps.size D + 1 := by
  cases D <;> try exact Nat.zero_le _
  rename_i es
  show (DataW.insert (k, v) (es.filter fun p => !p.1.sameKey k)).length ≤ es.length + 1
  rw [length_insert]
  have := List.length_filter_le (fun p : Lit × DataW Value => !p.1.sameKey k) es
  omega
/-- The disk, told apart from memory. -/
structure AD where
  now : DataW Value
  syn : DataW Value
  chs : List Ch
  fil : Nat → Option (List Int × Nat)
  ops : Int
  cutAt : Int
  cuts : Bool
  gone : Bool

/-- What holds of every such disk. -/
structure AD.ok (S : AD) : Prop where
  lo : 0 ≤ S.ops
  hi : S.ops ≤ 65536
  few : (S.chs.length : Int) ≤ S.ops
  isn : S.now = .nil ∨ IsMap S.now
  iss : S.syn = .nil ∨ IsMap S.syn
  szn : Maps.size S.now ≤ 64
  szs : Maps.size S.syn ≤ 64
  road : runs S.chs (dn S.syn) = dn S.now
  fine : ∀ k, k ≤ S.chs.length → Fine (runs (S.chs.take k) (dn S.syn)) S.fil

theorem dn_map {D : DataW Value} (h : D = .nil ∨ IsMap D) : IsMap (dn D) := by
  rcases h with rfl | ⟨es, rfl⟩
  · exact ⟨[], rfl⟩
  · exact ⟨es, rfl⟩
theorem dn_at {D : DataW Value} (h : D = .nil ∨ IsMap D) (k : Lit) (z : DataW Value) : (dn D).atKey k z = D.atKey k z := by
  rcases h with rfl | ⟨es, rfl⟩ <;> rfl
theorem dn_sz {D : DataW Value} (h : D = .nil ∨ IsMap D) : Maps.size (dn D) = Maps.size D := by
  rcases h with rfl | ⟨es, rfl⟩ <;> rfl
theorem dn_id {D : DataW Value} (h : IsMap D) : dn D = D := by
  obtain ⟨es, rfl⟩ := h
  rfl

theorem AD.ok.now_fine {S : AD} (h : S.ok) : Fine (dn S.now) S.fil := by
  have := h.fine S.chs.length (Nat.le_refl _)
  rwa [List.take_length, h.road] at this

theorem runs_snoc (l : List Ch) (c : Ch) (D : DataW Value) : runs (l ++ [c]) D = c.run (runs l D) := by simp [runs]

/-- One more change, and one more operation; the files may have become more, or other ones. -/
theorem AD.ok.step {S : AD} (h : S.ok) (c : Ch) (fil' : Nat → Option (List Int × Nat)) (hop : S.ops < 65536) (hk : ∀ f x, S.fil f = some x → ∃ y, fil' f = some y) (hm : IsMap (c.run (dn S.now))) (hs : Maps.size (c.run (dn S.now)) ≤ 64) (hf : Fine (c.run (dn S.now)) fil') :
    AD.ok { S with now := c.run (dn S.now), chs := S.chs ++ [c], fil := fil', ops := S.ops + 1 } := by
  have h1 := h.lo
  have h2 := h.few
  refine ⟨by show 0 ≤ S.ops + 1; omega, by show S.ops + 1 ≤ 65536; omega, by show ((S.chs ++ [c]).length : Int) ≤ S.ops + 1; simp; omega, .inr hm, h.iss, hs, h.szs, ?_, fun k hk' => ?_⟩
  · show runs (S.chs ++ [c]) (dn S.syn) = dn (c.run (dn S.now))
    rw [runs_snoc, h.road, dn_id hm]
  · show Fine (runs ((S.chs ++ [c]).take k) (dn S.syn)) fil'
    have hk2 : k ≤ S.chs.length + 1 := by simpa using hk'
    by_cases e : k ≤ S.chs.length
    · rw [List.take_append_of_le_length e]
      exact (h.fine k e).more hk
    · rw [List.take_of_length_le (by simp; omega), runs_snoc, h.road]
      exact hf

/-- The directory is synced. -/
theorem AD.ok.sync {S : AD} (h : S.ok) (hop : S.ops < 65536) : AD.ok { S with syn := dn S.now, chs := [], ops := S.ops + 1 } := by
  have h1 := h.lo
  have hm := dn_map h.isn
  refine ⟨by show 0 ≤ S.ops + 1; omega, by show S.ops + 1 ≤ 65536; omega, by show ((0 : Nat) : Int) ≤ S.ops + 1; omega, h.isn, .inr hm, h.szn, by show Maps.size (dn S.now) ≤ 64; rw [dn_sz h.isn]; exact h.szn, ?_, fun k hk => ?_⟩
  · show dn (dn S.now) = dn S.now
    exact dn_id hm
  · show Fine (runs (([] : List Ch).take k) (dn (dn S.now))) S.fil
    rw [List.take_nil, dn_id hm]
    exact h.now_fine

/-- Other files, or more, and maybe one more operation. -/
theorem AD.ok.files {S : AD} (h : S.ok) (fil' : Nat → Option (List Int × Nat)) (n : Int) (hn : S.ops ≤ n) (hn2 : n ≤ 65536) (hk : ∀ f x, S.fil f = some x → ∃ y, fil' f = some y) : AD.ok { S with fil := fil', ops := n } :=
  ⟨by have := h.lo; show 0 ≤ n; omega, hn2, by have := h.few; show (S.chs.length : Int) ≤ n; omega, h.isn, h.iss, h.szn, h.szs, h.road, fun k hk' => (h.fine k hk').more hk⟩
end Go.Proofs.YthfcjfhaoabdeaaGreatDoor

/-
  The disk in memory and the disk told apart from it, held together.
-/
set_option linter.unusedVariables false
set_option linter.unusedSimpArgs false
namespace Go.Proofs.YthfcjfhaoabdeaaGreatDoor
open Go.RowKit Go.Maps

/-- Files in memory. -/
def Fils (w : World) (B : Nat) (fil : Nat → Option (List Int × Nat)) (vf : Nat → Value) : Prop :=
  (∀ f x, fil f = some x → Fl w f (vf f) x.2 ∧ Own w B (vf f) x.1 ∧ Byt x.1 ∧ x.2 ≤ x.1.length ∧ x.1.length ≤ 262144 ∧ B ≤ f) ∧
  ∀ f g x y j, fil f = some x → fil g = some y → (vf f).ownBlock = some j → (vf g).ownBlock = some j → f = g

theorem Fils.same {w w' : World} {B : Nat} {fil : Nat → Option (List Int × Nat)} {vf : Nat → Value} (h : Fils w B fil vf)
    (e : ∀ (j : Nat) (cur : Array Value) (t : TypeId), t = 200 ∨ t = 5 → w.heap[j]? = some (Obj.cells cur t (0, 0)) → w'.heap[j]? = w.heap[j]?) : Fils w' B fil vf := by
  refine ⟨fun f x hf => ?_, h.2⟩
  obtain ⟨h1, h2, h3⟩ := h.1 f x hf
  refine ⟨(e _ _ _ (.inl rfl) h1).trans h1, row_same h2 fun j hj => ?_, h3⟩
  obtain ⟨cur, hh, _⟩ := row_block h2 hj
  exact e _ _ _ (.inr rfl) hh

theorem ChAt.same2 {w w' : World} {c : Value} {ch : Ch} (h : ChAt w c ch) (e : ∀ (j : Nat) (cur : Array Value) (t : TypeId), t = 9 ∨ t = 141 → w.heap[j]? = some (Obj.cells cur t (0, 0)) → w'.heap[j]? = w.heap[j]?) : ChAt w' c ch := by
  cases ch with
  | mk s f =>
    obtain ⟨fb, nb, rfl, h1, h2, h3⟩ := h
    exact ⟨fb, nb, rfl, (e _ _ _ (.inl rfl) h1).trans h1, (e _ _ _ (.inr rfl) h2).trans h2, h3⟩
  | del s =>
    obtain ⟨nb, rfl, h1, h3⟩ := h
    exact ⟨nb, rfl, (e _ _ _ (.inl rfl) h1).trans h1, h3⟩
  | ren s t =>
    obtain ⟨nb, mb, rfl, h1, h2, h3, h4⟩ := h
    exact ⟨nb, mb, rfl, (e _ _ _ (.inl rfl) h1).trans h1, (e _ _ _ (.inl rfl) h2).trans h2, h3, h4⟩

structure Mem (w : World) (B d : Nat) (S : AD) (nb sb : Option Nat) (sv : Value) (cs : List Value) (vf : Nat → Value) : Prop where
  dk : Dk w d (.map nb) (.map sb) sv S.ops S.cutAt S.cuts S.gone
  now : Dir w nb S.now
  syn : Dir w sb S.syn
  nlo : ∀ j, nb = some j → B ≤ j
  slo : ∀ j, sb = some j → B ≤ j
  ne : ∀ j, nb = some j → sb ≠ some j
  row : w.ownsRow B 370 1 sv S.chs.length cs
  chs : ∀ (i : Nat) (ch : Ch), S.chs[i]? = some ch → ∃ c, cs[i]? = some c ∧ ChAt w c ch
  fils : Fils w B S.fil vf

def Rep (w : World) (B d : Nat) (S : AD) : Prop := ∃ nb sb sv cs vf, Mem w B d S nb sb sv cs vf

section
variable {w w' : World} {B d : Nat} {S : AD} {nb sb : Option Nat} {sv : Value} {cs : List Value} {vf : Nat → Value}

theorem dir_lt {mb : Option Nat} {D : DataW Value} (h : Dir w mb D) : ∀ j, mb = some j → j < w.heap.size := fun j e => by
  rcases h with ⟨rfl, _⟩ | ⟨b, n, rfl, ho⟩
  · cases e
  · cases e; exact ho.lt
theorem dir_cells {mb : Option Nat} {D : DataW Value} (h : Dir w mb D) {j : Nat} {cur : Array Value} {t : TypeId} {fr : Nat × Nat} (hc : w.heap[j]? = some (Obj.cells cur t fr)) : mb ≠ some j := fun e => by
  rcases h with ⟨rfl, _⟩ | ⟨b, n, rfl, ho⟩
  · cases e
  · cases e; exact own_not_cells ho hc rfl
/-- All that was there is as it was. -/
theorem Mem.same (M : Mem w B d S nb sb sv cs vf) (e : ∀ j, j < w.heap.size → w'.heap[j]? = w.heap[j]?) : Mem w' B d S nb sb sv cs vf := by
  have ec : ∀ (j : Nat) (cur : Array Value) (t : TypeId), w.heap[j]? = some (Obj.cells cur t (0, 0)) → w'.heap[j]? = w.heap[j]? := fun j cur t h => e j (Array.getElem?_eq_some_iff.1 h).1
  refine ⟨M.dk.same (e _ M.dk.lt), Dir.same M.now fun j h => e j (dir_lt M.now j h), Dir.same M.syn fun j h => e j (dir_lt M.syn j h), M.nlo, M.slo, M.ne, row_same M.row fun j h => ?_, fun i ch hi => ?_, M.fils.same fun j cur t _ => ec j cur t⟩
  · obtain ⟨cur, hh, _⟩ := row_block M.row h
    exact ec _ _ _ hh
  · obtain ⟨c, h1, h2⟩ := M.chs i ch hi
    exact ⟨c, h1, h2.same2 fun j cur t _ => ec j cur t⟩
/-- A row of changes lies in no box, file or row of bytes. -/
theorem row_cells {v : Value} {k : Nat} (h : w.ownsRow B 370 1 v k cs) {j : Nat} {cur : Array Value} {t : TypeId} (ht : t ≠ 370) (hc : w.heap[j]? = some (Obj.cells cur t (0, 0))) : v.ownBlock ≠ some j := fun e => by
  obtain ⟨cur', hh, _⟩ := row_block h e
  rw [hc] at hh
  simp at hh
  exact ht hh.2
theorem dk_cells {now syn since : Value} {ops cutAt : Int} {cuts gone : Bool} (h : Dk w d now syn since ops cutAt cuts gone) {j : Nat} {cur : Array Value} {t : TypeId} (ht : t ≠ 77) (hc : w.heap[j]? = some (Obj.cells cur t (0, 0))) : j ≠ d := fun e => by
  unfold Dk at h
  rw [e, h] at hc
  simp at hc
  exact ht hc.2.symm

/-- A change of the directory. -/
theorem Mem.change (M : Mem w B d S nb sb sv cs vf) (hB : B ≤ w.heap.size) {b n' : Nat} {sv' c : Value} {ch : Ch} {D' : DataW Value} {fil' : Nat → Option (List Int × Nat)} {vf' : Nat → Value} (hbn : nb = some b ∨ nb = none ∧ w.heap.size ≤ b)
    (dk' : Dk w' d (.map (some b)) (.map sb) sv' (S.ops + 1) S.cutAt S.cuts S.gone) (own' : w'.ownsMap Tryz.prog 9 RV b n' D') (row' : w'.ownsRow B 370 1 sv' (S.chs.length + 1) (cs ++ [c])) (hc : ChAt w' c ch)
    (F : Fr (fun j => j = d ∨ nb = some j ∨ sv.ownBlock = some j) w w') (hf : Fils w' B fil' vf') :
    Mem w' B d { S with now := D', chs := S.chs ++ [ch], fil := fil', ops := S.ops + 1 } (some b) sb sv' (cs ++ [c]) vf' := by
  have hcl : cs.length = S.chs.length := by have := M.row.1; omega
  refine ⟨dk', .inr ⟨b, n', rfl, own'⟩, Dir.same M.syn fun j h => F.block j (dir_lt M.syn j h) ?_, fun j h => ?_, M.slo, fun j h hs => ?_, ?_, fun i ch' hi => ?_, hf⟩
  · rintro (e | e | e)
    · subst e; exact dir_cells M.syn M.dk h
    · exact M.ne j e h
    · obtain ⟨cur, hh, _⟩ := row_block M.row e
      exact dir_cells M.syn hh h
  · cases h
    rcases hbn with e | ⟨_, e⟩
    · exact M.nlo _ e
    · omega
  · cases h
    rcases hbn with e | ⟨_, e⟩
    · exact M.ne _ e hs
    · have := dir_lt M.syn _ hs; omega
  · simpa using row'
  · have hi' : (S.chs ++ [ch])[i]? = some ch' := hi
    by_cases e : i < S.chs.length
    · rw [List.getElem?_append_left e] at hi'
      obtain ⟨c', h1, h2⟩ := M.chs i ch' hi'
      refine ⟨c', by rw [List.getElem?_append_left (by omega)]; exact h1, h2.same2 fun j cur t ht hh => F.block j (Array.getElem?_eq_some_iff.1 hh).1 ?_⟩
      rintro (e | e | e)
      · exact dk_cells M.dk (by rcases ht with rfl | rfl <;> decide) hh e
      · exact dir_cells M.now hh e
      · exact row_cells M.row (by rcases ht with rfl | rfl <;> decide) hh e
    · rw [List.getElem?_append_right (by omega)] at hi'
      have e2 : i - S.chs.length = 0 := by
        rcases Nat.eq_zero_or_pos (i - S.chs.length) with h | h
        · exact h
        · rw [List.getElem?_eq_none (by simp; omega)] at hi'; cases hi'
      rw [e2] at hi'
      cases hi'
      refine ⟨c, ?_, hc⟩
      rw [List.getElem?_append_right (by omega), hcl, e2]
      rfl

/-- The files, where the directory alone has changed. -/
theorem Mem.files (M : Mem w B d S nb sb sv cs vf) (F : Fr (fun j => j = d ∨ nb = some j ∨ sv.ownBlock = some j) w w') : Fils w' B S.fil vf :=
  M.fils.same fun j cur t ht hh => F.block j (Array.getElem?_eq_some_iff.1 hh).1 (by
    rintro (e | e | e)
    · exact dk_cells M.dk (by rcases ht with rfl | rfl <;> decide) hh e
    · exact dir_cells M.now hh e
    · exact row_cells M.row (by rcases ht with rfl | rfl <;> decide) hh e)
end
end Go.Proofs.YthfcjfhaoabdeaaGreatDoor

/-
  The operations of the disk, held against the disk told apart from memory.
-/
set_option linter.unusedVariables false
set_option linter.unusedSimpArgs false
namespace Go.Proofs.YthfcjfhaoabdeaaGreatDoor
open Go.RowKit Go.Maps

/-- Where a disk may have changed. -/
def FD (B d : Nat) (j : Nat) : Prop := j = d ∨ B ≤ j

section
variable {w w' : World} {B d : Nat} {S : AD}

/-- What a name leads to, now. -/
theorem AD.ok.lead (ok : S.ok) (s : ByteArray) : (Maps.has (dn S.now) (kl s) = false ∧ Leads S.now s none) ∨ ∃ f x, Maps.has (dn S.now) (kl s) = true ∧ (∀ z, (dn S.now).atKey (kl s) z = pt f) ∧ Leads S.now s (some ⟨f, 0, none⟩) ∧ S.fil f = some x := by
  have e : ∀ p, Leads (dn S.now) s p → Leads S.now s p := fun p h => by
    have := dn_at ok.isn (kl s) (.held (.pointer none))
    exact this.symm.trans h
  rcases ok.now_fine.lead s with ⟨h1, h2⟩ | ⟨f, x, h1, h2, h3, h4⟩
  · exact .inl ⟨h1, e _ h2⟩
  · exact .inr ⟨f, x, h1, h2, e _ h3, h4⟩

theorem Mem.wide {nb sb : Option Nat} {sv : Value} {cs : List Value} {vf : Nat → Value} (M : Mem w B d S nb sb sv cs vf) (F : Fr (fun j => j = d ∨ nb = some j ∨ sv.ownBlock = some j) w w') : Fr (FD B d) w w' :=
  F.mono fun j _ e => by
    rcases e with e | e | e
    · exact .inl e
    · exact .inr (M.nlo j e)
    · obtain ⟨_, _, hl, _⟩ := row_block M.row e
      exact .inr hl

/-- A file's bytes are synced. -/
def AD.synced (S : AD) (f : Nat) (x : List Int × Nat) : AD := { S with fil := fun g => if g = f then some (x.1, x.1.length) else S.fil g, ops := S.ops + 1 }

theorem rep_sync (h : Rep w B d S) (ok : S.ok) (hon : On S.ops S.cutAt S.cuts S.gone) (hB : B ≤ w.heap.size) (s : ByteArray) (hs : s.size ≤ maxLen) :
    Calls Tryz.prog 179 #[.pointer (some ⟨d, 0, none⟩), .string s] w fun e w' => ∃ x S', e = .returned (.int .i64 x) ∧ Rep w' B d S' ∧ S'.ok ∧ Fr (FD B d) w w' ∧ (x ≠ 0 → S' = S) ∧
      (x = 0 → ∃ f y, (∀ z, (dn S.now).atKey (kl s) z = pt f) ∧ S.fil f = some y ∧ S' = S.synced f y ∧ isName s = true) ∧ ∃ p, Leads S.now s p ∧ x = code (isName s) p S.ops := by
  obtain ⟨nb, sb, sv, cs, vf, M⟩ := h
  obtain ⟨p, hp, hpf⟩ : ∃ p, Leads S.now s p ∧ (∀ a, p = some a → ∃ f x, a = ⟨f, 0, none⟩ ∧ (∀ z, (dn S.now).atKey (kl s) z = pt f) ∧ S.fil f = some x) := by
    rcases ok.lead s with ⟨_, h2⟩ | ⟨f, x, h1, h2, h3, h4⟩
    · exact ⟨none, h2, fun a e => by cases e⟩
    · exact ⟨_, h3, fun a e => by cases e; exact ⟨f, x, rfl, h2, h4⟩⟩
  by_cases hz : code (isName s) p S.ops = 0
  · obtain ⟨hn, ⟨a, rfl⟩, hop⟩ := code_zero hz
    obtain ⟨f, x, rfl, hat, hff⟩ := hpf a rfl
    obtain ⟨g1, g2, g3, g4, g5, g6⟩ := M.fils.1 f x hff
    obtain ⟨ao, l, cap, hv, hsl, _⟩ := g2.sl' g3
    have hl : l = x.1.length := hsl.1.symm
    rw [hv] at g1
    refine (sync_ok M.dk hon M.now ok.lo s hn f x.2 l cap ao hp hop g1).mono ?_
    rintro e w' ⟨rfl, h1, h2, F⟩
    have hdl := M.dk
    have ec : ∀ (j : Nat) (cur : Array Value) (t : TypeId), t ≠ 77 → j ≠ f → w.heap[j]? = some (Obj.cells cur t (0, 0)) → w'.heap[j]? = w.heap[j]? := fun j cur t ht hj hh => F.block j (Array.getElem?_eq_some_iff.1 hh).1 (by
      rintro (e | e)
      · exact dk_cells M.dk ht hh e
      · exact hj e)
    have ef : ∀ (j : Nat) (cur : Array Value) (t : TypeId), t ≠ 200 → w.heap[j]? = some (Obj.cells cur t (0, 0)) → j ≠ f := fun j cur t ht hh e => by
      have g1' : w.heap[f]? = _ := g1
      rw [e, g1'] at hh
      simp at hh
      exact ht hh.2.symm
    have em : ∀ j, (nb = some j ∨ sb = some j) → w'.heap[j]? = w.heap[j]? := fun j hj => F.block j (by
      rcases hj with e | e
      · exact dir_lt M.now j e
      · exact dir_lt M.syn j e) (by
      rintro (e | e)
      · subst e
        rcases hj with e | e
        · exact dir_cells M.now M.dk e
        · exact dir_cells M.syn M.dk e
      · subst e
        rcases hj with e | e
        · exact dir_cells M.now g1 e
        · exact dir_cells M.syn g1 e)
    have hdisk : (5 : TypeId) ≠ 77 ∧ (5 : TypeId) ≠ 200 := by decide
    refine ⟨0, S.synced f x, rfl, ⟨nb, sb, sv, cs, vf, ?_⟩, ?_, F.mono fun j _ e => ?_, fun e => absurd rfl e, fun _ => ⟨f, x, hat, hff, rfl, hn⟩, _, hp, hz.symm⟩
    · refine ⟨h1, Dir.same M.now fun j e => em j (.inl e), Dir.same M.syn fun j e => em j (.inr e), M.nlo, M.slo, M.ne, row_same M.row fun j e => ?_, fun i ch hi => ?_, ⟨fun g y hg => ?_, fun g g' y y' j hg hg' => ?_⟩⟩
      · obtain ⟨cur, hh, _⟩ := row_block M.row e
        exact ec _ _ _ (by decide) (ef _ _ _ (by decide) hh) hh
      · obtain ⟨c, a1, a2⟩ := M.chs i ch hi
        exact ⟨c, a1, a2.same2 fun j cur t ht hh => ec _ _ _ (by rcases ht with rfl | rfl <;> decide) (ef _ _ _ (by rcases ht with rfl | rfl <;> decide) hh) hh⟩
      · by_cases e : g = f
        · subst e
          have hg' : (if g = g then some (x.1, x.1.length) else S.fil g) = some y := hg
          rw [if_pos rfl] at hg'
          cases hg'
          refine ⟨?_, row_same g2 fun j ej => ?_, g3, Nat.le_refl _, g5, g6⟩
          · show Fl w' g (vf g) x.1.length
            rw [hv, ← hl]
            exact h2
          · obtain ⟨cur, hh, _⟩ := row_block g2 ej
            exact ec _ _ _ hdisk.1 (ef _ _ _ hdisk.2 hh) hh
        · have hg' : (if g = f then some (x.1, x.1.length) else S.fil g) = some y := hg
          rw [if_neg e] at hg'
          obtain ⟨k1, k2, k3⟩ := M.fils.1 g y hg'
          refine ⟨(ec _ _ _ (by decide) e k1).trans k1, row_same k2 fun j ej => ?_, k3⟩
          obtain ⟨cur, hh, _⟩ := row_block k2 ej
          exact ec _ _ _ hdisk.1 (ef _ _ _ hdisk.2 hh) hh
      · have back : ∀ g y, (S.synced f x).fil g = some y → ∃ y', S.fil g = some y' := fun g y hg => by
          by_cases e : g = f
          · subst e; exact ⟨x, hff⟩
          · have hg' : (if g = f then some (x.1, x.1.length) else S.fil g) = some y := hg
            rw [if_neg e] at hg'
            exact ⟨y, hg'⟩
        obtain ⟨z, hz⟩ := back g y hg
        obtain ⟨z', hz'⟩ := back g' y' hg'
        exact M.fils.2 g g' z z' j hz hz'
    · refine ok.files _ (S.ops + 1) (by omega) (by omega) fun g y hg => ?_
      by_cases e : g = f
      · exact ⟨(x.1, x.1.length), by simp [e]⟩
      · exact ⟨y, by simp [e, hg]⟩
    · rcases e with e | e
      · exact .inl e
      · exact .inr (by omega)
  · refine (sync_err M.dk hon M.now s hs p hp _ rfl hz).mono ?_
    rintro e w' ⟨rfl, q, rfl⟩
    exact ⟨_, S, rfl, ⟨_, _, _, _, _, M.same fun j hj => rfl⟩, ok, (Fr.refl _ _).drewN q, fun _ => rfl, fun e => absurd e hz, p, hp, rfl⟩

/-- The directory is synced. -/
def AD.dirSynced (S : AD) : AD := { S with syn := dn S.now, chs := [], ops := S.ops + 1 }

theorem rep_syncDir (h : Rep w B d S) (ok : S.ok) (hon : On S.ops S.cutAt S.cuts S.gone) (hB : B ≤ w.heap.size) :
    Calls Tryz.prog 139 #[.pointer (some ⟨d, 0, none⟩)] w fun e w' => ∃ x S', e = .returned (.int .i64 x) ∧ Rep w' B d S' ∧ S'.ok ∧ Fr (FD B d) w w' ∧ x = (if 65536 ≤ S.ops then 23 else 0) ∧ S' = if 65536 ≤ S.ops then S else S.dirSynced := by
  obtain ⟨nb, sb, sv, cs, vf, M⟩ := h
  by_cases hop : 65536 ≤ S.ops
  · refine (syncDir_full M.dk hon hop).mono ?_
    rintro e w' ⟨rfl, q, rfl⟩
    exact ⟨_, S, rfl, ⟨_, _, _, _, _, M.same fun j hj => rfl⟩, ok, (Fr.refl _ _).drewN q, by rw [if_pos hop], by rw [if_pos hop]⟩
  · refine (syncDir_ok M.dk hon M.now (by have := ok.szn; omega) ok.lo (by omega)).mono ?_
    rintro e w' ⟨b, rfl, hb, h1, h2, F⟩
    have ec : ∀ (j : Nat) (cur : Array Value) (t : TypeId), t ≠ 77 → w.heap[j]? = some (Obj.cells cur t (0, 0)) → w'.heap[j]? = w.heap[j]? := fun j cur t ht hh => F.block j (Array.getElem?_eq_some_iff.1 hh).1 (dk_cells M.dk ht hh)
    refine ⟨0, S.dirSynced, rfl, ⟨nb, some b, .slice none 0 0, [], vf, ?_⟩, ok.sync (by omega), F.mono fun j _ e => .inl e, by rw [if_neg hop], by rw [if_neg hop]⟩
    refine ⟨h1, Dir.same M.now fun j e => F.block j (dir_lt M.now j e) (fun e2 => by subst e2; exact dir_cells M.now M.dk e), .inr ⟨b, _, rfl, h2⟩, M.nlo, (fun j e => by cases e; omega), fun j e e2 => ?_, World.ownsRow_nil _ _ _ _, (fun i ch hi => by cases hi), M.fils.same fun j cur t ht hh => ec j cur t (by rcases ht with rfl | rfl <;> decide) hh⟩
    cases e2
    have := dir_lt M.now _ e
    omega
end
end Go.Proofs.YthfcjfhaoabdeaaGreatDoor

/-
  Append, held against the disk told apart from memory.
-/
set_option linter.unusedVariables false
set_option linter.unusedSimpArgs false
namespace Go.Proofs.YthfcjfhaoabdeaaGreatDoor
open Go.RowKit Go.Maps

def upd (fil : Nat → Option (List Int × Nat)) (f : Nat) (x : List Int × Nat) (g : Nat) : Option (List Int × Nat) := if g = f then some x else fil g
theorem upd_same (fil : Nat → Option (List Int × Nat)) (f : Nat) (x : List Int × Nat) : upd fil f x f = some x := if_pos rfl
theorem upd_other (fil : Nat → Option (List Int × Nat)) {f g : Nat} (x : List Int × Nat) (h : g ≠ f) : upd fil f x g = fil g := if_neg h

/-- A file is made, and has these bytes. -/
def AD.made (S : AD) (s : ByteArray) (f : Nat) (xs : List Int) : AD := { S with now := (Ch.mk s f).run (dn S.now), chs := S.chs ++ [.mk s f], fil := upd S.fil f (xs, 0), ops := S.ops + 1 }
/-- A file has these bytes more. -/
def AD.grown (S : AD) (f : Nat) (y : List Int × Nat) (xs : List Int) : AD := { S with fil := upd S.fil f (y.1 ++ xs, y.2), ops := S.ops + 1 }

section
variable {w w' : World} {B d : Nat} {S : AD}

theorem rep_append (h : Rep w B d S) (ok : S.ok) (hon : On S.ops S.cutAt S.cuts S.gone) (hB : B ≤ w.heap.size) (s : ByteArray) (hs : s.size ≤ maxLen) (ao : Option Addr) (len cap : Nat) (xs : List Int) (hx : Sl w ao len cap xs) (hxa : 0 < len → ∀ b off, ao = some ⟨b, off, none⟩ → b < B ∧ b ≠ d) :
    Calls Tryz.prog 177 #[.pointer (some ⟨d, 0, none⟩), .string s, .slice ao len cap] w fun e w' => ∃ x S', e = .returned (.int .i64 x) ∧ Rep w' B d S' ∧ S'.ok ∧ Fr (FD B d) w w' ∧
      ((x = 20 ∧ isName s = false ∧ S' = S) ∨
       (x = 23 ∧ isName s = true ∧ S' = S ∧ ((Maps.has (dn S.now) (kl s) = false ∧ (65536 ≤ S.ops ∨ 262144 < len ∨ 64 ≤ Maps.size S.now)) ∨ ∃ f y, (∀ z, (dn S.now).atKey (kl s) z = pt f) ∧ S.fil f = some y ∧ (65536 ≤ S.ops ∨ 262144 < len + y.1.length))) ∨
       (x = 0 ∧ isName s = true ∧ S.ops < 65536 ∧ Maps.has (dn S.now) (kl s) = false ∧ len ≤ 262144 ∧ Maps.size S.now < 64 ∧ ∃ f, S.fil f = none ∧ w.heap.size ≤ f ∧ S' = S.made s f xs) ∨
       (x = 0 ∧ isName s = true ∧ S.ops < 65536 ∧ ∃ f y, (∀ z, (dn S.now).atKey (kl s) z = pt f) ∧ S.fil f = some y ∧ len + y.1.length ≤ 262144 ∧ S' = S.grown f y xs)) := by
  obtain ⟨nb, sb, sv, cs, vf, M⟩ := h
  have hlen : len ≤ maxLen := Nat.le_trans hx.2.1 hx.2.2.1
  cases hn : isName s with
  | false =>
    refine (append_bad M.dk hon s hs hn _).mono ?_
    rintro e w' ⟨rfl, hb⟩
    exact ⟨_, S, rfl, ⟨_, _, _, _, _, M.same fun j hj => hb.block j hj⟩, ok, Fr.below hb, .inl ⟨rfl, rfl, rfl⟩⟩
  | true =>
    rcases ok.lead s with ⟨hhas, hl⟩ | ⟨f, y, hhas, hat, hl, hff⟩
    · by_cases hfull : 65536 ≤ S.ops ∨ 262144 < len ∨ 64 ≤ Maps.size S.now
      · refine (append_full M.dk hon M.now s hn none hl ao len cap hlen (fun a e => by cases e) (fun _ ho => by omega)).mono ?_
        rintro e w' ⟨rfl, hb⟩
        exact ⟨_, S, rfl, ⟨_, _, _, _, _, M.same fun j hj => hb.block j hj⟩, ok, Fr.below hb, .inr (.inl ⟨rfl, rfl, rfl, .inl ⟨hhas, hfull⟩⟩)⟩
      · have hop : S.ops < 65536 := by omega
        have hch := ok.few
        refine (append_new M.dk hon M.now M.row hB (by omega) (by omega) ok.lo hop s hn hl ao len cap xs hx (by omega) (fun h0 b off e => ?_)).mono ?_
        · obtain ⟨h1, h2⟩ := hxa h0 b off e
          refine ⟨h2, fun e2 => ?_, fun e2 => ?_⟩
          · have := M.nlo b e2; omega
          · obtain ⟨_, _, h3, _⟩ := row_block M.row e2; omega
        · rintro e w' ⟨f, nb', fb, b, sv', fv, rfl, a1, a2, a3, a4, a5, a6, a7, a8, a9, a10, a11, a12, a13, F⟩
          have hnew : S.fil f = none := by
            cases hf : S.fil f with
            | none => rfl
            | some y => have := (M.fils.1 f y hf).1.lt; omega
          have hfi : Fils w' B (upd S.fil f (xs, 0)) (fun g => if g = f then fv else vf g) := by
            have M' := M.files F
            refine ⟨fun g y hg => ?_, fun g g' y y' j hg hg' hj hj' => ?_⟩
            · by_cases e : g = f
              · subst e
                rw [upd_same] at hg
                cases hg
                refine ⟨by simpa using a4, by simpa using a5, hx.2.2.2.1, Nat.zero_le _, ?_, by omega⟩
                show xs.length ≤ 262144
                have := hx.1
                omega
              · rw [upd_other _ _ e] at hg
                have := M'.1 g y hg
                simpa [e] using this
            · by_cases e : g = f
              · by_cases e' : g' = f
                · rw [e, e']
                · exfalso
                  rw [upd_other _ _ e'] at hg'
                  have hj2 : fv.ownBlock = some j := by simpa [e] using hj
                  have hj3 : (vf g').ownBlock = some j := by simpa [e'] using hj'
                  obtain ⟨_, _, _, hl2⟩ := row_block (M.fils.1 g' y' hg').2.1 hj3
                  have := a6 j hj2
                  omega
              · by_cases e' : g' = f
                · exfalso
                  rw [upd_other _ _ e] at hg
                  have hj2 : fv.ownBlock = some j := by simpa [e'] using hj'
                  have hj3 : (vf g).ownBlock = some j := by simpa [e] using hj
                  obtain ⟨_, _, _, hl2⟩ := row_block (M.fils.1 g y hg).2.1 hj3
                  have := a6 j hj2
                  omega
                · rw [upd_other _ _ e] at hg
                  rw [upd_other _ _ e'] at hg'
                  exact M.fils.2 g g' y y' j hg hg' (by simpa [e] using hj) (by simpa [e'] using hj')
          refine ⟨0, S.made s f xs, rfl, ⟨some b, sb, sv', cs ++ [mkCl fb nb'], fun g => if g = f then fv else vf g, ?_⟩, ?_, M.wide F, .inr (.inr (.inl ⟨rfl, rfl, hop, hhas, by omega, by omega, f, hnew, a1, rfl⟩))⟩
          · exact M.change hB a9 a10 a11 a12 (ch := .mk s f) (show ChAt w' (mkCl fb nb') (.mk s f) from ⟨fb, nb', rfl, a7, a8, (isName_size hn).2⟩) F hfi
          · refine ok.step (.mk s f) (upd S.fil f (xs, 0)) hop (fun g y hg => ?_) ((dn_map ok.isn).put _ _) ?_ ?_
            · have : g ≠ f := fun e => by rw [e, hnew] at hg; cases hg
              exact ⟨y, by rw [upd_other _ _ this]; exact hg⟩
            · have h1 := size_put_le (dn S.now) (kl s) (pt f)
              rw [dn_sz ok.isn] at h1
              show Maps.size ((dn S.now).put (kl s) (pt f)) ≤ 64
              omega
            · refine Fine.put (ok.now_fine.more fun g y hg => ?_) (dn_map ok.isn) s f (xs, 0) (upd_same _ _ _) hn
              have : g ≠ f := fun e => by rw [e, hnew] at hg; cases hg
              exact ⟨y, by rw [upd_other _ _ this]; exact hg⟩
    · obtain ⟨g1, g2, g3, g4, g5, g6⟩ := M.fils.1 f y hff
      obtain ⟨aof, l, capf, hv, hsl, _⟩ := g2.sl' g3
      have hll : l = y.1.length := hsl.1.symm
      by_cases hfull : 65536 ≤ S.ops ∨ 262144 < len + y.1.length
      · refine (append_full M.dk hon M.now s hn _ hl ao len cap hlen (fun a e => ?_) (fun e => by cases e)).mono ?_
        · cases e
          refine ⟨f, aof, l, capf, y.2, rfl, by rw [hv] at g1; exact g1, by omega, fun ho => ?_⟩
          rcases hfull with h1 | h1
          · omega
          · omega
        · rintro e w' ⟨rfl, hb⟩
          exact ⟨_, S, rfl, ⟨_, _, _, _, _, M.same fun j hj => hb.block j hj⟩, ok, Fr.below hb, .inr (.inl ⟨rfl, rfl, rfl, .inr ⟨f, y, hat, hff, hfull⟩⟩)⟩
      · have hop : S.ops < 65536 := by omega
        refine (append_old M.dk hon M.now hB ok.lo hop s hn f y.2 hl (vf f) y.1 g1 g2 g3 ao len cap xs hx (by omega)).mono ?_
        rintro e w' ⟨fv', rfl, a1, a2, a3, a4, F⟩
        have ec : ∀ (j : Nat) (cur : Array Value) (t : TypeId), t ≠ 77 → j ≠ f → (vf f).ownBlock ≠ some j → w.heap[j]? = some (Obj.cells cur t (0, 0)) → w'.heap[j]? = w.heap[j]? := fun j cur t ht hj hr hh => F.block j (Array.getElem?_eq_some_iff.1 hh).1 (by
          rintro (e | e | e)
          · exact dk_cells M.dk ht hh e
          · exact hj e
          · exact hr e)
        have ef : ∀ (j : Nat) (cur : Array Value) (t : TypeId), t ≠ 200 → w.heap[j]? = some (Obj.cells cur t (0, 0)) → j ≠ f := fun j cur t ht hh e => by
          have g1' : w.heap[f]? = _ := g1
          rw [e, g1'] at hh
          simp at hh
          exact ht hh.2.symm
        have er : ∀ (j : Nat) (cur : Array Value) (t : TypeId), t ≠ 5 → w.heap[j]? = some (Obj.cells cur t (0, 0)) → (vf f).ownBlock ≠ some j := fun j cur t ht hh e => by
          obtain ⟨cur', hh', _⟩ := row_block g2 e
          rw [hh] at hh'
          simp at hh'
          exact ht hh'.2
        have em : ∀ j, (nb = some j ∨ sb = some j) → w'.heap[j]? = w.heap[j]? := fun j hj => F.block j (by
          rcases hj with e | e
          · exact dir_lt M.now j e
          · exact dir_lt M.syn j e) (by
          have hd : ∀ (cur : Array Value) (t : TypeId), w.heap[j]? ≠ some (Obj.cells cur t (0, 0)) := fun cur t hh => by
            rcases hj with e | e
            · exact dir_cells M.now hh e
            · exact dir_cells M.syn hh e
          rintro (e | e | e)
          · subst e; exact hd _ _ M.dk
          · subst e; exact hd _ _ g1
          · obtain ⟨cur, hh, _⟩ := row_block g2 e
            exact hd _ _ hh)
        refine ⟨0, S.grown f y xs, rfl, ⟨nb, sb, sv, cs, fun g => if g = f then fv' else vf g, ?_⟩, ?_, F.mono fun j _ e => ?_, .inr (.inr (.inr ⟨rfl, rfl, hop, f, y, hat, hff, by omega, rfl⟩))⟩
        · refine ⟨a4, Dir.same M.now fun j e => em j (.inl e), Dir.same M.syn fun j e => em j (.inr e), M.nlo, M.slo, M.ne, row_same M.row fun j e => ?_, fun i ch hi => ?_, ⟨fun g z hg => ?_, fun g g' z z' j hg hg' hj hj' => ?_⟩⟩
          · obtain ⟨cur, hh, _⟩ := row_block M.row e
            exact ec _ _ _ (by decide) (ef _ _ _ (by decide) hh) (er _ _ _ (by decide) hh) hh
          · obtain ⟨c, b1, b2⟩ := M.chs i ch hi
            exact ⟨c, b1, b2.same2 fun j cur t ht hh => ec _ _ _ (by rcases ht with rfl | rfl <;> decide) (ef _ _ _ (by rcases ht with rfl | rfl <;> decide) hh) (er _ _ _ (by rcases ht with rfl | rfl <;> decide) hh) hh⟩
          · by_cases e : g = f
            · subst e
              have hg' : upd S.fil g (y.1 ++ xs, y.2) g = some z := hg
              rw [upd_same] at hg'
              cases hg'
              refine ⟨by simpa using a1, by simpa using a2, g3.append hx.2.2.2.1, ?_, ?_, g6⟩
              · show y.2 ≤ (y.1 ++ xs).length
                rw [List.length_append]; omega
              · show (y.1 ++ xs).length ≤ 262144
                rw [List.length_append]
                have := hx.1
                omega
            · have hg' : upd S.fil f (y.1 ++ xs, y.2) g = some z := hg
              rw [upd_other _ _ e] at hg'
              obtain ⟨k1, k2, k3⟩ := M.fils.1 g z hg'
              show Fl w' g (if g = f then fv' else vf g) z.2 ∧ Own w' B (if g = f then fv' else vf g) z.1 ∧ _
              rw [if_neg e]
              refine ⟨(ec _ _ _ (by decide) e (er _ _ _ (by decide) k1) k1).trans k1, row_same k2 fun j ej => ?_, k3⟩
              obtain ⟨cur, hh, _⟩ := row_block k2 ej
              exact ec _ _ _ (by decide) (ef _ _ _ (by decide) hh) (fun e2 => e (M.fils.2 g f z y j hg' hff ej e2)) hh
          · have key : ∀ g z j, upd S.fil f (y.1 ++ xs, y.2) g = some z → g ≠ f → (if g = f then fv' else vf g).ownBlock = some j → fv'.ownBlock = some j → False := fun g z j hg e h1 h2 => by
              rw [upd_other _ _ e] at hg
              rw [if_neg e] at h1
              obtain ⟨_, _, _, hl2⟩ := row_block (M.fils.1 g z hg).2.1 h1
              rcases a3 with e3 | ⟨j', e3, hj3⟩
              · rw [e3] at h2
                exact e (M.fils.2 g f z y j hg hff h1 h2)
              · rw [e3] at h2
                cases h2
                omega
            by_cases e : g = f
            · by_cases e' : g' = f
              · rw [e, e']
              · exact (key g' z' j hg' e' hj' (by simpa [e] using hj)).elim
            · by_cases e' : g' = f
              · exact (key g z j hg e hj (by simpa [e'] using hj')).elim
              · have hg2 : upd S.fil f (y.1 ++ xs, y.2) g = some z := hg
                have hg3 : upd S.fil f (y.1 ++ xs, y.2) g' = some z' := hg'
                rw [upd_other _ _ e] at hg2
                rw [upd_other _ _ e'] at hg3
                exact M.fils.2 g g' z z' j hg2 hg3 (by simpa [e] using hj) (by simpa [e'] using hj')
        · refine ok.files _ (S.ops + 1) (by omega) (by omega) fun g z hg => ?_
          by_cases e : g = f
          · exact ⟨(y.1 ++ xs, y.2), by rw [e, upd_same]⟩
          · exact ⟨z, by rw [upd_other _ _ e]; exact hg⟩
        · rcases e with e | e | e
          · exact .inl e
          · exact .inr (by omega)
          · obtain ⟨_, _, hl2, _⟩ := row_block g2 e
            exact .inr hl2
end
end Go.Proofs.YthfcjfhaoabdeaaGreatDoor

/-
  The calls of a script, done on a disk.
-/
set_option linter.unusedVariables false
set_option linter.unusedSimpArgs false
namespace Go.Proofs.YthfcjfhaoabdeaaGreatDoor
open Go.RowKit Go.Maps

/-- Which of nine things a number speaks of. -/
def pk (c : Int) : Nat := ((if c < 0 then -(c + 1) else c) % 9).toNat
section
variable {w : World} {B d : Nat} {S : AD}
end

end Go.Proofs.YthfcjfhaoabdeaaGreatDoor

/-
  The names that there are.
-/
set_option linter.unusedVariables false
set_option linter.unusedSimpArgs false
namespace Go.Proofs.YthfcjfhaoabdeaaGreatDoor
open Go.RowKit Go.Maps Go.Sort Go.Shelf

set_option maxHeartbeats 2000000 in
theorem names_any {w : World} {d b n : Nat} {syn since : Value} {ops cutAt : Int} {cuts gone : Bool} {D : DataW Value} (h : Dk w d (.map (some b)) syn since ops cutAt cuts gone) (ho : w.ownsMap Tryz.prog 9 RV b n D) (hD : Maps.size D ≤ 1000000) :
    Calls Tryz.prog 49 #[.pointer (some ⟨d, 0, none⟩)] w fun e w' => ∃ (v : Value) (ss : List (List UInt8)), e = .returned v ∧ ss.Perm (strKeys D) ∧
      w'.ownsRow w.heap.size 9 1 v ss.length ((ss.mergeSort (fun x y => decide (x ≤ y))).map encStr) ∧ (v = .slice none 0 0 ↔ ss = []) ∧ Below w.heap.size w w' := by
  refine (callsIn_wide (n := 6)).1 ?_
  obtain ⟨c0, c1, c2, c3, c4, c5, c6⟩ := h.cells
  have cK : ∀ W, CallsIn Fence.wide 5 Tryz.prog 71 #[.map (some b)] W _ := fun W => keys_any (some b) W
  have cS := sortedKeys_any b n D RV w ho (by unfold maxLen; omega) (by omega)
  have hfK : Fence.wide.fn 71 := trivial
  have hfS : Fence.wide.fn 70 := trivial
  refine callsIn_of_wp Tryz.func49 rfl trivial ?_ rfl
  simp only [Tryz.ntmps49, List.size_toArray, List.length_cons, List.length_nil, Nat.reduceAdd, Nat.reduceSub, Array.replicate_succ, Array.replicate_zero, List.push_toArray, List.append_toArray, List.nil_append, List.cons_append]
  gi_wp2_with (first
    | (gi_at_call 71; refine (cK _).mono ?_; rintro e w' ⟨rfl, rfl⟩)
    | (gi_at_call 70; refine cS.mono ?_; rintro e w' ⟨v, ss, rfl, hS, hrow, hnil, hb⟩))
  go_ret
  exact ⟨v, ss, rfl, hS, Go.Joins.ownsRow_le hrow (by simp), hnil, ((Below.refl _ w).alloc (Nat.le_refl _) _).trans (hb.mono (by simp))⟩
end Go.Proofs.YthfcjfhaoabdeaaGreatDoor
