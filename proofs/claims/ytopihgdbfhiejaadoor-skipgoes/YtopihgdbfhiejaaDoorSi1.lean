/-
  An operation that is begun; the law's done; what is used.
-/
import Derived.Test.YtopihgdbfhiejaaDoorSh1
import Derived.Test.YtopihgdbfhiejaaDoorC9
set_option linter.unusedVariables false
set_option linter.unusedSimpArgs false
namespace Go.Proofs.YtopihgdbfhiejaaDoor
open Go.RowKit Go.Maps

theorem up_zero (n : Nat) : upT n 0 = List.replicate n false := by simp [upT]
section
variable {w w' : World} {K B : Nat → Prop} {lb d z M : Nat} {s : Sl} {ob : Nat} {cv : Value} {o : Opm} {k : ByteArray} {kind : Nat} {r : Int} {h : Nat}
theorem Om.begun {lp : Value} (ho : Om w ob (lpp lb) nilv o) (hc : o.cs = []) (h0 : ob ≠ 0) : Ob w (fun j => j = ob) ob lb nilv o := by
  refine ⟨ho, ?_, fun e => h0 e.symm, fun j e => ?_, fun j e => e ▸ ho.lt⟩
  · rw [hc]; exact ⟨rfl, .inl ⟨rfl, rfl⟩⟩
  · rcases e with e | e
    · exact e
    · cases e
theorem LT.insert (hl : LT w K lb d z M s) (k : ByteArray) (hk : good k = true) (ref height : Int) :
    Calls Tryd.prog 27 #[.pointer (some ⟨lb, 0, none⟩), .string k, .int .i64 ref, .int .i64 height] w fun e w' => e = .returned (.pointer (some ⟨w.heap.size, 0, none⟩)) ∧ Om w' w.heap.size (lpp lb) nilv { opS 2 k with r := ref, h := hgt height } ∧ Below w.heap.size w w' := by
  obtain ⟨g, gt, tc, sv, T, N, m, F, hL, hok, _⟩ := hl
  exact insert_raw (lp := lpp lb) (begin_good hL hok.n1 2 k (by have := (good_size hk).2; unfold maxLen; omega) (by decide) hk)
theorem LT.lookup (hl : LT w K lb d z M s) (k : ByteArray) (hk : good k = true) :
    Calls Tryd.prog 26 #[.pointer (some ⟨lb, 0, none⟩), .string k] w fun e w' => e = .returned (.pointer (some ⟨w.heap.size, 0, none⟩)) ∧ Om w' w.heap.size (lpp lb) nilv { opS 0 k with r := 0, h := 0 } ∧ Below w.heap.size w w' := by
  obtain ⟨g, gt, tc, sv, T, N, m, F, hL, hok, _⟩ := hl
  exact lookup_raw (lp := lpp lb) (.inr ⟨lb, rfl⟩) (begin_good hL hok.n1 0 k (by have := (good_size hk).2; unfold maxLen; omega) (by decide) hk)
theorem LT.next (hl : LT w K lb d z M s) (k : ByteArray) (hk : k.size ≤ maxLen) :
    Calls Tryd.prog 28 #[.pointer (some ⟨lb, 0, none⟩), .string k] w fun e w' => e = .returned (.pointer (some ⟨w.heap.size, 0, none⟩)) ∧ Om w' w.heap.size (lpp lb) nilv { opS 1 k with r := 0, h := 0 } ∧ Below w.heap.size w w' := by
  obtain ⟨g, gt, tc, sv, T, N, m, F, hL, hok, _⟩ := hl
  exact next_raw (lp := lpp lb) (begin_next hL hok.n1 k hk)
theorem LT.used (hl : LT w K lb d z M s) : Calls Tryd.prog 11 #[.pointer (some ⟨d, 0, none⟩)] w fun e w' => e = .returned (.int .i64 (s.cells.length : Nat)) ∧ w' = w := by
  obtain ⟨g, gt, tc, sv, T, N, m, F, hL, hok, hcw, _⟩ := hl
  have := Used_any hL.aw
  rw [hcw.cnt] at this
  exact this
theorem LT.k0 (hl : LT w K lb d z M s) : ¬ K 0 := by
  obtain ⟨g, gt, tc, sv, T, N, m, F, hL, _⟩ := hl
  exact hL.k0

/-- done, of an operation that was just begun. -/
theorem done_new {most : Nat} (hl : LT w K lb d z M s) (hsp : s.sp = []) (ho : Om w ob (lpp lb) nilv { opS kind k with r := r, h := h }) (hob : ¬ K ob) (h0 : ob ≠ 0) (hk2 : kind ≠ 0 → kind ≠ 1 → kind = 2) (hh : kind = 2 → good k = true ∧ 1 ≤ h ∧ h ≤ 8) (hz : kind = 2 → s.cells.length + h ≤ z) (hp : s.tw.length - 1 + 8 + (if kind = 2 then 2 * h else 0) ≤ most) (hmo : most ≤ 1000000) (hM : M < 1000000000000) :
    Calls Tryd.prog 15 #[.pointer (some ⟨ob, 0, none⟩), .int .i64 (most : Int)] w fun e w' => ∃ (n : Nat) (s' : Sl) (o' : Opm) (K' : Nat → Prop) (cv' : Value), e = .returned (.int .i64 (n : Int)) ∧ 1 ≤ n ∧ Fin s k kind r h s' o' ∧ LT w' K' lb d z (M + most) s' ∧ Om w' ob (lpp lb) cv' o' ∧ ¬ K' ob ∧ (∀ j, j < w.heap.size → (K' j ↔ K j)) ∧ Fr (fun j => K j ∨ j = ob) w w' := by
  refine (done_alone hl hsp (Om.begun (lp := nilv) ho rfl h0) (fun j e q => hob (q ▸ e)) (Alo.start hl.ok hk2 hh) hz (show (1 : Nat) ≠ 5 by decide) hp hmo hM).mono ?_
  rintro e w' ⟨n, s', o', K', B', cv', rfl, hn, hf, hl', ho', hN⟩
  exact ⟨n, s', o', K', cv', rfl, hn, hf, hl'.up (by omega), ho'.om, fun e => hN.ap ob e (ho'.kk ob (.inl rfl)), hN.k, hN.fr⟩

theorem Fin.size {s' : Sl} (hf : Fin s k kind r h s' o) (hok : s.ok) (hk : good k = true ∨ kind ≠ 2) : o.fk.size ≤ 16 := by
  obtain ⟨-, -, -, hf⟩ := hf
  rcases hf with ⟨j, h1, h2, e, _⟩ | ⟨_, e, _⟩ | ⟨q, e, _⟩
  · rw [e]; exact good_le hok h2
  · rw [e]; decide
  · rw [e]
    rcases hk with hk | hk
    · exact (good_size hk).2
    · exact absurd q hk
end
end Go.Proofs.YtopihgdbfhiejaaDoor
