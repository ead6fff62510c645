/-
  Two disks beside each other, one of which is cut off: what they have is the same; what a crash leaves of a disk without memory.
-/
import Derived.Test.YtolaagbdnchhiaaPPlay
import Derived.Test.YtolaagbdnchhiaaDiskLasts
set_option linter.unusedVariables false
set_option linter.unusedSimpArgs false
namespace Go.Proofs.Ytolaagbdnchhiaa
open Go.RowKit Go.Maps

/-! ### Of no memory -/
theorem app_n (P : PD) (s : ByteArray) (xs : List Int) : P.n ≤ (P.app s xs).2.n ∧ (P.app s xs).2.n ≤ P.n + 1 := by
  unfold PD.app
  split
  · exact ⟨by show P.n ≤ P.n; omega, by show P.n ≤ P.n + 1; omega⟩
  · split <;> split
    all_goals constructor <;> simp <;> omega
theorem sync_n (P : PD) (s : ByteArray) : P.n ≤ (P.sync s).2.n ∧ (P.sync s).2.n ≤ P.n + 1 := by
  unfold PD.sync
  split
  · split
    all_goals constructor <;> simp <;> omega
  · constructor <;> simp <;> omega
theorem ren_n (P : PD) (s t : ByteArray) : P.n ≤ (P.ren s t).2.n ∧ (P.ren s t).2.n ≤ P.n + 1 := by
  unfold PD.ren
  split <;> constructor <;> simp <;> omega
theorem del_n (P : PD) (s : ByteArray) : P.n ≤ (P.del s).2.n ∧ (P.del s).2.n ≤ P.n + 1 := by
  unfold PD.del
  split <;> constructor <;> simp <;> omega
theorem syncDir_n (P : PD) : P.n ≤ P.syncDir.2.n ∧ P.syncDir.2.n ≤ P.n + 1 := by
  unfold PD.syncDir
  split <;> constructor <;> simp <;> omega

section
variable {a : Int}
theorem go_free {T : PS} (h : T.gone = false) (hn : T.P.n < a) (f : PD → PD) : T.go a true f = T.go 0 false f := by
  unfold PS.go
  rw [if_neg (by rintro (e | e); rw [h] at e; cases e; omega), if_neg (by rintro (e | e); rw [h] at e; cases e; exact absurd e.1 (by decide))]
theorem step_free {T : PS} (h : T.gone = false) (hn : T.P.n < a) (o : OpR) : T.step a true o = T.step 0 false o := by
  unfold PS.step
  rw [go_free h hn, go_free h hn, go_free h hn, go_free h hn, go_free h hn]
theorem go_gone {T : PS} (h : T.gone = false) (f : PD → PD) : (T.go 0 false f).gone = false := by
  unfold PS.go
  rw [if_neg (by rintro (e | e); rw [h] at e; cases e; exact absurd e.1 (by decide))]
  exact h
theorem step_gone {T : PS} (h : T.gone = false) (o : OpR) : (T.step 0 false o).gone = false := by
  unfold PS.step
  repeat' split
  all_goals first | exact go_gone h _ | exact h
theorem play_gone {T : PS} (h : T.gone = false) (os : List OpR) : (T.play 0 false os).gone = false := by
  unfold PS.play
  induction os generalizing T with
  | nil => exact h
  | cons o os ih => exact ih (step_gone h o)
/-- Up to the cut both do the same. -/
theorem play_free {T : PS} (h : T.gone = false) (os : List OpR) : ∀ k, (∀ j, j < k → (T.play 0 false (os.take j)).P.n < a) → T.play a true (os.take k) = T.play 0 false (os.take k)
  | 0, _ => rfl
  | k + 1, hk => by
    have ih := play_free h os k (fun j hj => hk j (by omega))
    cases e : os[k]? with
    | none =>
      have hl : os.length ≤ k := List.getElem?_eq_none_iff.1 e
      rw [List.take_of_length_le (show os.length ≤ k + 1 by omega), ← List.take_of_length_le hl]
      exact ih
    | some o =>
      rw [play_snoc T os k o e, play_snoc T os k o e, ih]
      exact step_free (play_gone h _) (hk k (by omega)) o
/-- Behind the cut nothing is done. -/
theorem go_stuck {T : PS} (h : a ≤ T.P.n) (f : PD → PD) : (T.go a true f).P = T.P := by
  unfold PS.go
  rw [if_pos (.inr ⟨rfl, h⟩)]
theorem step_stuck {T : PS} (h : a ≤ T.P.n) (o : OpR) : (T.step a true o).P = T.P := by
  unfold PS.step
  repeat' split
  all_goals first | exact go_stuck h _ | rfl
theorem play_stuck {T : PS} (h : a ≤ T.P.n) (os : List OpR) : (T.play a true os).P = T.P := by
  unfold PS.play
  induction os generalizing T with
  | nil => rfl
  | cons o os ih =>
    have e := step_stuck h o
    show (List.foldl (fun T o => T.step a true o) (T.step a true o) os).P = T.P
    rw [ih (by rw [e]; exact h), e]
theorem go_most {T : PS} (h : T.P.n ≤ a) (f : PD → PD) (hf : (f T.P).n ≤ T.P.n + 1) : (T.go a true f).P.n ≤ a := by
  unfold PS.go
  split
  · exact h
  · rename_i hc
    have : ¬ a ≤ T.P.n := fun e => hc (.inr ⟨rfl, e⟩)
    show (f T.P).n ≤ a
    omega
theorem step_most {T : PS} (h : T.P.n ≤ a) (o : OpR) : (T.step a true o).P.n ≤ a := by
  unfold PS.step
  split
  · exact go_most h _ (app_n _ _ _).2
  split
  · exact go_most h _ (sync_n _ _).2
  split
  · exact go_most h _ (ren_n _ _ _).2
  split
  · exact go_most h _ (del_n _ _).2
  split
  · exact go_most h _ (syncDir_n _).2
  · exact h
theorem play_most {T : PS} (h : T.P.n ≤ a) (os : List OpR) : (T.play a true os).P.n ≤ a := by
  unfold PS.play
  induction os generalizing T with
  | nil => exact h
  | cons o os ih => exact ih (step_most h o)
theorem play_append (T : PS) (c : Int) (b : Bool) (l m : List OpR) : T.play c b (l ++ m) = (T.play c b l).play c b m := by unfold PS.play; rw [List.foldl_append]
end

/-! ### What a crash leaves -/
def PD.cdir (P : PD) (di : Int) : PDir := pruns (P.log.take (shr di P.log.length)) P.old
structure PSeen (w : World) (d : Nat) (P : PD) (ke di te : Int) : Prop where
  it : ∃ S ρ, Link S P ρ ∧ S.ok ∧ Seen w d (S.crashDir di) (fun f => (S.fil f).map (leftOf ke te)) 0
section
variable {w w' : World} {B d : Nat} {P : PD} {ke di te : Int}
theorem PSeen.below (h : PSeen w d P ke di te) (hb : Below w.heap.size w w') : PSeen w' d P ke di te := by
  obtain ⟨S, ρ, h1, h2, h3⟩ := h.it
  exact ⟨S, ρ, h1, h2, h3.below hb⟩
theorem Link.cdir {S : AD} {ρ : Nat → Nat} (h : Link S P ρ) (di : Int) : S.crashDir di = mp ρ (P.cdir di) := by
  unfold AD.crashDir PD.cdir
  rw [h.len]
  exact h.road _ (shr_le di _)
theorem dr_crash {cutAt : Int} {cuts gone : Bool} (h : DR w B d P cutAt cuts gone) (ke di te : Int) :
    Calls Try.prog 21 #[.pointer (some ⟨d, 0, none⟩), .agg #[.int .i64 ke, .int .i64 di, .int .i64 te]] w fun e w' => ∃ d', e = .returned (.pointer (some ⟨d', 0, none⟩)) ∧ PSeen w' d' P ke di te ∧ Below w.heap.size w w' := by
  obtain ⟨S, ρ, h1, ok, hl, _⟩ := h
  refine (rep_crash h1 ok ke di te).mono ?_
  rintro e w' ⟨d', rfl, hs, hb⟩
  exact ⟨d', rfl, ⟨S, ρ, hl, ok, hs⟩, hb⟩
theorem pseen_names (h : PSeen w d P ke di te) :
    Calls Try.prog 23 #[.pointer (some ⟨d, 0, none⟩)] w fun e w' => ∃ ao len cap L, e = .returned (.slice ao len cap) ∧ Canon L ∧ (∀ k, Maps.has L k = (plook k (P.cdir di)).isSome) ∧ St w' ao len cap (nm L) ∧ (∀ s ∈ nm L, (plook (kl s) (P.cdir di)).isSome = true) ∧ Below w.heap.size w w' := by
  obtain ⟨S, ρ, h1, ok, h3⟩ := h.it
  refine (see_names h3 fun s hs => ?_).mono ?_
  · obtain ⟨_, _, _, _, hn⟩ := crash_name ok di hs
    have := isName_size hn
    unfold maxLen
    omega
  · rintro e w' ⟨ao, len, cap, L, rfl, c1, c2, c3, c4, c5⟩
    refine ⟨ao, len, cap, L, rfl, c1, fun k => ?_, c3, fun s hs => ?_, c5⟩
    · rw [c2, h1.cdir, mp_has]
    · have := c4 s hs
      rwa [h1.cdir, mp_has] at this
theorem pseen_read (h : PSeen w d P ke di te) (s : ByteArray) {i : Nat} (hi : plook (kl s) (P.cdir di) = some i) :
    Calls Try.prog 22 #[.pointer (some ⟨d, 0, none⟩), .string s] w fun e w' => ∃ ao len cap, e = .returned (.tuple #[.slice ao len cap, .int .i64 0]) ∧ Sl w' ao len cap (leftOf ke te (P.at i)) ∧ Below w.heap.size w w' := by
  obtain ⟨S, ρ, h1, ok, h3⟩ := h.it
  have hhas : Maps.has (S.crashDir di) (kl s) = true := by rw [h1.cdir, mp_has, hi]; rfl
  obtain ⟨_, _, _, _, hn⟩ := crash_name ok di hhas
  have hat : ∀ z, (S.crashDir di).atKey (kl s) z = pt (ρ i) := fun z => by rw [h1.cdir]; exact mp_at hi z
  obtain ⟨p, hp, hpi, _⟩ := look_mem hi
  have hid : i < P.fil.length := by rw [← hpi]; exact h1.ids _ (shr_le di _) p hp
  have hf := h1.fil i _ (List.getElem?_eq_getElem hid)
  have ha : P.at i = P.fil[i] := at_eq (List.getElem?_eq_getElem hid)
  exact see_read h3 s hn (ρ i) _ hat (by rw [hf, ha]; rfl)
theorem dr_ops {cutAt : Int} {cuts gone : Bool} (h : DR w B d P cutAt cuts gone) : Calls Try.prog 26 #[.pointer (some ⟨d, 0, none⟩)] w fun e w' => e = .returned (.int .i64 P.n) ∧ w' = w := by
  obtain ⟨now, syn, since, hd⟩ := h.dk
  exact ops_any hd

/-- What is done to another disk, and behind all that is there, leaves this one. -/
theorem mem_apart {S : AD} {nb sb : Option Nat} {sv : Value} {cs : List Value} {vf : Nat → Value} {c : Nat} {n1 n2 n3 : Value} {c1 c2 : Int} {c3 c4 : Bool} (M : Mem w B d S nb sb sv cs vf) (hc : Dk w c n1 n2 n3 c1 c2 c3 c4) (hcd : c ≠ d) (hF : Fr (fun j => j = c ∨ w.heap.size ≤ j) w w') : Mem w' B d S nb sb sv cs vf := by
  have ec : ∀ (j : Nat) (cur : Array Value) (t : TypeId), t ≠ 61 → w.heap[j]? = some (Obj.cells cur t (0, 0)) → w'.heap[j]? = w.heap[j]? := fun j cur t ht hh => hF.block j (Array.getElem?_eq_some_iff.1 hh).1 (by
    rintro (e | e)
    · exact dk_cells hc ht hh e
    · have := (Array.getElem?_eq_some_iff.1 hh).1
      omega)
  have em : ∀ {mb : Option Nat} {D : DataW Value}, Dir w mb D → ∀ j, mb = some j → w'.heap[j]? = w.heap[j]? := fun hD j e => hF.block j (dir_lt hD j e) (by
    rintro (e2 | e2)
    · exact dir_cells hD hc (by rw [← e2]; exact e)
    · have := dir_lt hD j e
      omega)
  refine ⟨M.dk.same (hF.block d M.dk.lt (by
    rintro (e | e)
    · exact hcd e.symm
    · have := M.dk.lt
      omega)), Dir.same M.now (em M.now), Dir.same M.syn (em M.syn), M.nlo, M.slo, M.ne, row_same M.row fun j e => ?_, fun i ch hi => ?_, M.fils.same fun j cur t ht => ec j cur t (by rcases ht with rfl | rfl <;> decide)⟩
  · obtain ⟨cur, hh, _⟩ := row_block M.row e
    exact ec _ _ _ (by decide) hh
  · obtain ⟨c, h1, h2⟩ := M.chs i ch hi
    exact ⟨c, h1, h2.same2 fun j cur t ht => ec j cur t (by rcases ht with rfl | rfl <;> decide)⟩
theorem DR.apart {cutAt : Int} {cuts gone : Bool} {c : Nat} {n1 n2 n3 : Value} {c1 c2 : Int} {c3 c4 : Bool} (h : DR w B d P cutAt cuts gone) (hc : Dk w c n1 n2 n3 c1 c2 c3 c4) (hcd : c ≠ d) (hF : Fr (fun j => j = c ∨ w.heap.size ≤ j) w w') : DR w' B d P cutAt cuts gone := by
  obtain ⟨S, ρ, ⟨nb, sb, sv, cs, vf, M⟩, h2⟩ := h
  exact ⟨S, ρ, ⟨nb, sb, sv, cs, vf, mem_apart M hc hcd hF⟩, h2⟩
end
end Go.Proofs.Ytolaagbdnchhiaa
