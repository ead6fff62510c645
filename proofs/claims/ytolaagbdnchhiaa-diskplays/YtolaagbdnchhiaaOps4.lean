/-
  Append to a file that is there.
-/
import Derived.Test.YtolaagbdnchhiaaOps3
set_option linter.unusedVariables false
set_option linter.unusedSimpArgs false
namespace Go.Proofs.Ytolaagbdnchhiaa
open Go.RowKit Go.Maps

set_option maxHeartbeats 4000000 in
set_option maxRecDepth 100000 in
theorem append_old {w : World} {d B : Nat} {mb : Option Nat} {syn since : Value} {ops cutAt : Int} {cuts gone : Bool} {D : DataW Value}
    (h : Dk w d (.map mb) syn since ops cutAt cuts gone) (hon : On ops cutAt cuts gone) (hd : Dir w mb D) (hB : B ≤ w.heap.size) (ho0 : 0 ≤ ops) (hops : ops < 65536)
    (s : ByteArray) (hn : isName s = true) (f sy : Nat) (hl : Leads D s (some ⟨f, 0, none⟩)) (fv : Value) (ys : List Int) (hf : Fl w f fv sy) (hown : Own w B fv ys) (hby : Byt ys)
    (ao : Option Addr) (len cap : Nat) (xs : List Int) (hx : Sl w ao len cap xs) (hfit : len + ys.length ≤ 262144) :
    Calls Try.prog 18 #[.pointer (some ⟨d, 0, none⟩), .string s, .slice ao len cap] w fun e w' =>
      ∃ fv', e = .returned (.int .i64 0) ∧ Fl w' f fv' sy ∧ Own w' B fv' (ys ++ xs) ∧ (fv'.ownBlock = fv.ownBlock ∨ ∃ j, fv'.ownBlock = some j ∧ w.heap.size ≤ j) ∧ Dk w' d (.map mb) syn since (ops + 1) cutAt cuts gone ∧
        Fr (fun j => j = d ∨ j = f ∨ fv.ownBlock = some j) w w' := by
  have hlt := h.lt
  have hz := isName_size hn
  have hs : s.size ≤ maxLen := by unfold maxLen; omega
  have h1 : Dk (w.alloc (.cells #[.string s] 9)) d (.map mb) syn since ops cutAt cuts gone := h.same (Below.heap_alloc _ _ d hlt)
  have hst := start_one h1 hon w.heap.size 1 s hs (by simp) 0 (by simp [hn])
  have hlen : len ≤ maxLen := by unfold maxLen; omega
  obtain ⟨i0, hi, hz0, hz1, hz2⟩ := info_parts Try.info5
  have hjm : ∀ j, mb = some j → j < w.heap.size := fun j e => by
    rcases hd with ⟨rfl, _⟩ | ⟨b, n, rfl, ho⟩
    · cases e
    · cases e; exact ho.lt
  have hjr : ∀ j, fv.ownBlock = some j → j < w.heap.size ∧ j ≠ d ∧ j ≠ f := fun j e => by
    obtain ⟨cur, hh, _, hl⟩ := row_block hown e
    refine ⟨hl, ?_, ?_⟩
    · rintro rfl
      unfold Dk at h
      rw [h] at hh
      simp at hh
    · rintro rfl
      unfold Fl at hf
      rw [hf] at hh
      simp at hh
  have hdf : d ≠ f := fun e => by
    unfold Dk at h; unfold Fl at hf
    rw [e, hf] at h
    simp at h
  have hfd := hdf.symm
  go_enter Try.func18, Try.ntmps18
  go_wp2_with fail
  refine hst.mono ?_
  rintro e w' ⟨rfl, q, rfl⟩
  have b1 : Below w.heap.size w ((w.alloc (.cells #[.string s] 9)).drewN q) := ((Below.refl _ _).alloc (Nat.le_refl _) _).trans ⟨rfl, rfl, rfl, Nat.le_refl _, fun _ _ => rfl⟩
  generalize (w.alloc (.cells #[.string s] 9)).drewN q = W at b1 ⊢
  clear hst h1
  have h1 : Dk W d (.map mb) syn since ops cutAt cuts gone := h.same (b1.block d hlt)
  have d1 : Dir W mb D := Dir.same hd fun j e => b1.block j (hjm j e)
  have f1 : Fl W f fv sy := (b1.block f hf.lt).trans hf
  have own1 : Own W B fv ys := row_same hown fun j e => b1.block j (hjr j e).1
  have x1 := hx.below b1
  obtain ⟨aof, lf, capf, rfl, slf, _⟩ := own1.sl' hby
  have hlf : lf = ys.length := slf.1.symm
  have hlook := d1.look s hs _ hl
  have hworn := worn_any h1
  rw [show decide (65536 ≤ ops) = false by simp; omega] at hworn
  have hroom := room_old (p := .pointer (some ⟨d, 0, none⟩)) f1 (by unfold maxLen; omega) len hlen
  rw [show decide (len + lf ≤ 262144) = true by simp; omega] at hroom
  have hs1 := b1.size
  have hl63 : (len : Int) ≤ 262144 := by omega
  obtain ⟨c0, c1, c2, c3, c4, c5, c6⟩ := h1.cells
  have cf := f1.cells.1
  clear hlf
  go_wp2_with (first
    | (go_at_call 47; refine hworn.mono ?_; rintro e w' ⟨rfl, rfl⟩)
    | (go_at_call 48; refine hroom.mono ?_; rintro e w' ⟨rfl, rfl⟩)
    | (at_builtin
       refine wpList_append_sl_at rfl _ _ 32 rfl B i0 Try.underlying32 hi hz0 hz1 hz2 (.slice aof lf capf) ys rfl own1 ao len cap xs rfl x1 (by omega) (by omega) ?_
       intro fv' w3 own3 gr3 bl3
       have f3 : Fl w3 f (.slice aof lf capf) sy := (gr3.block f f1.lt (fun e => (hjr f e.symm).2.2 rfl)).trans f1
       have cf3 := f3.cells.1
       have zf3 := f3.free 0
       have h3 : Dk w3 d (.map mb) syn since ops cutAt cuts gone := h1.same (gr3.block d h1.lt (fun e => (hjr d e.symm).2.1 rfl))
       have k3 := h3.cells.2.2.2.1
       have u3 := h3.free 3
       obtain ⟨ao3, l3, cap3, rfl, sl3, ne3⟩ := own3.sl' (hby.append x1.2.2.2.1)
       go_frame)
    | go_in)
  go_ret
  have S3 := gr3.size
  have hf4 : Fl (w3.setCell ⟨f, 0, none⟩ (.slice ao3 l3 cap3)) f (.slice ao3 l3 cap3) sy := f3.set0 _
  have hd4 : Dk (w3.setCell ⟨f, 0, none⟩ (.slice ao3 l3 cap3)) d (.map mb) syn since ops cutAt cuts gone := h3.same (Below.heap_setCell _ _ _ _ (by simpa using hdf))
  have hd5 := hd4.set.2.2.2.1 (ops + 1)
  have keep3 : ∀ j, j ≠ f → j ≠ d → ((w3.setCell ⟨f, 0, none⟩ (.slice ao3 l3 cap3)).setCell ⟨d, 3, none⟩ (.int .i64 (ops + 1))).heap[j]? = w3.heap[j]? := fun j e1 e2 =>
    (Below.heap_setCell _ _ _ _ (by simpa using e2)).trans (Below.heap_setCell _ _ _ _ (by simpa using e1))
  have fl1 := f1.lt
  have dl1 := h1.lt
  refine ⟨.slice ao3 l3 cap3, rfl, (Below.heap_setCell _ _ _ _ (by simpa using hfd)).trans hf4, row_same own3 fun j e => keep3 j ?_ ?_, ?_, hd5, ?_⟩
  · rcases bl3 with e' | e'
    · exact (hjr j (e' ▸ e)).2.2
    · rw [e'] at e; cases e; omega
  · rcases bl3 with e' | e'
    · exact (hjr j (e' ▸ e)).2.1
    · rw [e'] at e; cases e; omega
  · rcases bl3 with e' | e'
    · exact .inl e'
    · exact .inr ⟨_, e', by omega⟩
  · have G1 : Fr (fun j => j = d ∨ j = f ∨ (Value.slice aof lf capf).ownBlock = some j) w w3 := (Fr.below b1).trans (G := fun j => (Value.slice aof lf capf).ownBlock = some j) (Fr.grown gr3 (fun j e => e)) (fun j e => .inl (.inr (.inr e)))
    exact (G1.setCell (.inl (.inr (.inl rfl))) _).setCell (.inl (.inl rfl)) _
end Go.Proofs.Ytolaagbdnchhiaa
