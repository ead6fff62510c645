/-
  Append, held against the disk told apart from memory.
-/
import Derived.Test.YtolaagbdnchhiaaLOps
set_option linter.unusedVariables false
set_option linter.unusedSimpArgs false
namespace Go.Proofs.Ytolaagbdnchhiaa.Land
open Go.RowKit Go.Maps

section
variable {w w' : World} {K : Nat → Prop} {d : Nat} {S : AD}

theorem rep_append (h : Rep w K d S) (ok : S.ok) (hon : On S.ops S.cutAt S.cuts S.gone) (hK : ∀ j, w.heap.size ≤ j → K j) (s : ByteArray) (hs : s.size ≤ maxLen) (ao : Option Addr) (len cap : Nat) (xs : List Int) (hx : Sl w ao len cap xs) (hxa : 0 < len → ∀ b off, ao = some ⟨b, off, none⟩ → ¬ K b ∧ b ≠ d) :
    Calls Try.prog 18 #[.pointer (some ⟨d, 0, none⟩), .string s, .slice ao len cap] w fun e w' => ∃ x S', e = .returned (.int .i64 x) ∧ Rep w' K d S' ∧ S'.ok ∧ Fr (KD K d) w w' ∧
      ((x = 20 ∧ isName s = false ∧ S' = S) ∨
       (x = 23 ∧ isName s = true ∧ S' = S ∧ ((Maps.has (dn S.now) (kl s) = false ∧ (65536 ≤ S.ops ∨ 262144 < len ∨ 64 ≤ Maps.size S.now)) ∨ ∃ f y, (∀ z, (dn S.now).atKey (kl s) z = pt f) ∧ S.fil f = some y ∧ (65536 ≤ S.ops ∨ 262144 < len + y.1.length))) ∨
       (x = 0 ∧ isName s = true ∧ S.ops < 65536 ∧ Maps.has (dn S.now) (kl s) = false ∧ len ≤ 262144 ∧ Maps.size S.now < 64 ∧ ∃ f, S.fil f = none ∧ w.heap.size ≤ f ∧ S' = S.made s f xs) ∨
       (x = 0 ∧ isName s = true ∧ S.ops < 65536 ∧ ∃ f y, (∀ z, (dn S.now).atKey (kl s) z = pt f) ∧ S.fil f = some y ∧ len + y.1.length ≤ 262144 ∧ S' = S.grown f y xs)) := by
  obtain ⟨nb, sb, sv, cs, vf, M⟩ := h
  have hlen : len ≤ maxLen := Nat.le_trans hx.2.1 hx.2.2.1
  cases hn : isName s with
  | false =>
    refine (append_bad M.dk hon s hs hn _).mono ?_
    rintro e w' ⟨rfl, hb⟩
    exact ⟨_, S, rfl, ⟨_, _, _, _, _, M.same fun j hj => hb.block j hj⟩, ok, Fr.below hb, .inl ⟨rfl, rfl, rfl⟩⟩
  | true =>
    rcases ok.lead s with ⟨hhas, hl⟩ | ⟨f, y, hhas, hat, hl, hff⟩
    · by_cases hfull : 65536 ≤ S.ops ∨ 262144 < len ∨ 64 ≤ Maps.size S.now
      · refine (append_full M.dk hon M.now s hn none hl ao len cap hlen (fun a e => by cases e) (fun _ ho => by omega)).mono ?_
        rintro e w' ⟨rfl, hb⟩
        exact ⟨_, S, rfl, ⟨_, _, _, _, _, M.same fun j hj => hb.block j hj⟩, ok, Fr.below hb, .inr (.inl ⟨rfl, rfl, rfl, .inl ⟨hhas, hfull⟩⟩)⟩
      · have hop : S.ops < 65536 := by omega
        have hch := ok.few
        refine (append_new M.dk hon M.now M.row (Nat.zero_le _) (by omega) (by omega) ok.lo hop s hn hl ao len cap xs hx (by omega) (fun h0 b off e => ?_)).mono ?_
        · obtain ⟨h1, h2⟩ := hxa h0 b off e
          refine ⟨h2, fun e2 => ?_, fun e2 => ?_⟩
          · exact h1 (M.nlo b e2)
          · exact h1 (M.rlo b e2)
        · rintro e w' ⟨f, nb', fb, b, sv', fv, rfl, a1, a2, a3, a4, a5, a6, a7, a8, a9, a10, a11, a12, a13, F⟩
          have hnew : S.fil f = none := by
            cases hf : S.fil f with
            | none => rfl
            | some y => have := (M.fils.1 f y hf).1.lt; omega
          have hfi : Fils w' K (upd S.fil f (xs, 0)) (fun g => if g = f then fv else vf g) := by
            have M' := M.files F
            refine ⟨fun g y hg => ?_, fun g g' y y' j hg hg' hj hj' => ?_⟩
            · by_cases e : g = f
              · subst e
                rw [upd_same] at hg
                cases hg
                refine ⟨by simpa using a4, by simpa using a5, hx.2.2.2.1, Nat.zero_le _, ?_, hK _ (by omega), fun j hj => hK _ (a6 j (by simpa using hj))⟩
                show xs.length ≤ 262144
                have := hx.1
                omega
              · rw [upd_other _ _ e] at hg
                have := M'.1 g y hg
                simpa [e] using this
            · by_cases e : g = f
              · by_cases e' : g' = f
                · rw [e, e']
                · exfalso
                  rw [upd_other _ _ e'] at hg'
                  have hj2 : fv.ownBlock = some j := by simpa [e] using hj
                  have hj3 : (vf g').ownBlock = some j := by simpa [e'] using hj'
                  obtain ⟨_, _, _, hl2⟩ := row_block (M.fils.1 g' y' hg').2.1 hj3
                  have := a6 j hj2
                  omega
              · by_cases e' : g' = f
                · exfalso
                  rw [upd_other _ _ e] at hg
                  have hj2 : fv.ownBlock = some j := by simpa [e'] using hj'
                  have hj3 : (vf g).ownBlock = some j := by simpa [e] using hj
                  obtain ⟨_, _, _, hl2⟩ := row_block (M.fils.1 g y hg).2.1 hj3
                  have := a6 j hj2
                  omega
                · rw [upd_other _ _ e] at hg
                  rw [upd_other _ _ e'] at hg'
                  exact M.fils.2 g g' y y' j hg hg' (by simpa [e] using hj) (by simpa [e'] using hj')
          refine ⟨0, S.made s f xs, rfl, ⟨some b, sb, sv', cs ++ [mkCl fb nb'], fun g => if g = f then fv else vf g, ?_⟩, ?_, M.wide F, .inr (.inr (.inl ⟨rfl, rfl, hop, hhas, by omega, by omega, f, hnew, a1, rfl⟩))⟩
          · exact M.change hK a9 a10 a11 a12 (ch := .mk s f) (show ChAt w' (mkCl fb nb') (.mk s f) from ⟨fb, nb', rfl, a7, a8, (isName_size hn).2⟩) (fun j hj => by rw [boxes_mk] at hj; simp at hj; rcases hj with rfl | rfl; exact hK _ a3; exact hK _ a2) a13 F hfi
          · refine ok.step (.mk s f) (upd S.fil f (xs, 0)) hop (fun g y hg => ?_) ((dn_map ok.isn).put _ _) ?_ ?_
            · have : g ≠ f := fun e => by rw [e, hnew] at hg; cases hg
              exact ⟨y, by rw [upd_other _ _ this]; exact hg⟩
            · have h1 := size_put_le (dn S.now) (kl s) (pt f)
              rw [dn_sz ok.isn] at h1
              show Maps.size ((dn S.now).put (kl s) (pt f)) ≤ 64
              omega
            · refine Fine.put (ok.now_fine.more fun g y hg => ?_) (dn_map ok.isn) s f (xs, 0) (upd_same _ _ _) hn
              have : g ≠ f := fun e => by rw [e, hnew] at hg; cases hg
              exact ⟨y, by rw [upd_other _ _ this]; exact hg⟩
    · obtain ⟨g1, g2, g3, g4, g5, g6, g7⟩ := M.fils.1 f y hff
      obtain ⟨aof, l, capf, hv, hsl, _⟩ := g2.sl' g3
      have hll : l = y.1.length := hsl.1.symm
      by_cases hfull : 65536 ≤ S.ops ∨ 262144 < len + y.1.length
      · refine (append_full M.dk hon M.now s hn _ hl ao len cap hlen (fun a e => ?_) (fun e => by cases e)).mono ?_
        · cases e
          refine ⟨f, aof, l, capf, y.2, rfl, by rw [hv] at g1; exact g1, by omega, fun ho => ?_⟩
          rcases hfull with h1 | h1
          · omega
          · omega
        · rintro e w' ⟨rfl, hb⟩
          exact ⟨_, S, rfl, ⟨_, _, _, _, _, M.same fun j hj => hb.block j hj⟩, ok, Fr.below hb, .inr (.inl ⟨rfl, rfl, rfl, .inr ⟨f, y, hat, hff, hfull⟩⟩)⟩
      · have hop : S.ops < 65536 := by omega
        refine (append_old M.dk hon M.now (Nat.zero_le _) ok.lo hop s hn f y.2 hl (vf f) y.1 g1 g2 g3 ao len cap xs hx (by omega)).mono ?_
        rintro e w' ⟨fv', rfl, a1, a2, a3, a4, F⟩
        have ec : ∀ (j : Nat) (cur : Array Value) (t : TypeId), t ≠ 61 → j ≠ f → (vf f).ownBlock ≠ some j → w.heap[j]? = some (Obj.cells cur t (0, 0)) → w'.heap[j]? = w.heap[j]? := fun j cur t ht hj hr hh => F.block j (Array.getElem?_eq_some_iff.1 hh).1 (by
          rintro (e | e | e)
          · exact dk_cells M.dk ht hh e
          · exact hj e
          · exact hr e)
        have ef : ∀ (j : Nat) (cur : Array Value) (t : TypeId), t ≠ 81 → w.heap[j]? = some (Obj.cells cur t (0, 0)) → j ≠ f := fun j cur t ht hh e => by
          have g1' : w.heap[f]? = _ := g1
          rw [e, g1'] at hh
          simp at hh
          exact ht hh.2.symm
        have er : ∀ (j : Nat) (cur : Array Value) (t : TypeId), t ≠ 5 → w.heap[j]? = some (Obj.cells cur t (0, 0)) → (vf f).ownBlock ≠ some j := fun j cur t ht hh e => by
          obtain ⟨cur', hh', _⟩ := row_block g2 e
          rw [hh] at hh'
          simp at hh'
          exact ht hh'.2
        have em : ∀ j, (nb = some j ∨ sb = some j) → w'.heap[j]? = w.heap[j]? := fun j hj => F.block j (by
          rcases hj with e | e
          · exact dir_lt M.now j e
          · exact dir_lt M.syn j e) (by
          have hd : ∀ (cur : Array Value) (t : TypeId), w.heap[j]? ≠ some (Obj.cells cur t (0, 0)) := fun cur t hh => by
            rcases hj with e | e
            · exact dir_cells M.now hh e
            · exact dir_cells M.syn hh e
          rintro (e | e | e)
          · subst e; exact hd _ _ M.dk
          · subst e; exact hd _ _ g1
          · obtain ⟨cur, hh, _⟩ := row_block g2 e
            exact hd _ _ hh)
        refine ⟨0, S.grown f y xs, rfl, ⟨nb, sb, sv, cs, fun g => if g = f then fv' else vf g, ?_⟩, ?_, F.mono fun j _ e => ?_, .inr (.inr (.inr ⟨rfl, rfl, hop, f, y, hat, hff, by omega, rfl⟩))⟩
        · refine ⟨a4, Dir.same M.now fun j e => em j (.inl e), Dir.same M.syn fun j e => em j (.inr e), M.nlo, M.slo, M.ne, row_same M.row fun j e => ?_, M.rlo, fun i ch hi => ?_, ⟨fun g z hg => ?_, fun g g' z z' j hg hg' hj hj' => ?_⟩⟩
          · obtain ⟨cur, hh, _⟩ := row_block M.row e
            exact ec _ _ _ (by decide) (ef _ _ _ (by decide) hh) (er _ _ _ (by decide) hh) hh
          · obtain ⟨c, b1, b2, hbx⟩ := M.chs i ch hi
            exact ⟨c, b1, b2.same2 (fun j cur t ht hh => ec _ _ _ (by rcases ht with rfl | rfl <;> decide) (ef _ _ _ (by rcases ht with rfl | rfl <;> decide) hh) (er _ _ _ (by rcases ht with rfl | rfl <;> decide) hh) hh), hbx⟩
          · by_cases e : g = f
            · subst e
              have hg' : upd S.fil g (y.1 ++ xs, y.2) g = some z := hg
              rw [upd_same] at hg'
              cases hg'
              refine ⟨by simpa using a1, by simpa using a2, g3.append hx.2.2.2.1, ?_, ?_, g6, fun j hj => ?_⟩
              · show y.2 ≤ (y.1 ++ xs).length
                rw [List.length_append]; omega
              · show (y.1 ++ xs).length ≤ 262144
                rw [List.length_append]
                have := hx.1
                omega
              · have hj2 : fv'.ownBlock = some j := by simpa using hj
                rcases a3 with e3 | ⟨j', e3, hj3⟩
                · exact g7 j (by rw [← e3]; exact hj2)
                · rw [e3] at hj2; cases hj2; exact hK _ hj3
            · have hg' : upd S.fil f (y.1 ++ xs, y.2) g = some z := hg
              rw [upd_other _ _ e] at hg'
              obtain ⟨k1, k2, k3⟩ := M.fils.1 g z hg'
              show Fl w' g (if g = f then fv' else vf g) z.2 ∧ Own w' 0 (if g = f then fv' else vf g) z.1 ∧ _
              rw [if_neg e]
              refine ⟨(ec _ _ _ (by decide) e (er _ _ _ (by decide) k1) k1).trans k1, row_same k2 fun j ej => ?_, by simpa [e] using k3⟩
              obtain ⟨cur, hh, _⟩ := row_block k2 ej
              exact ec _ _ _ (by decide) (ef _ _ _ (by decide) hh) (fun e2 => e (M.fils.2 g f z y j hg' hff ej e2)) hh
          · have key : ∀ g z j, upd S.fil f (y.1 ++ xs, y.2) g = some z → g ≠ f → (if g = f then fv' else vf g).ownBlock = some j → fv'.ownBlock = some j → False := fun g z j hg e h1 h2 => by
              rw [upd_other _ _ e] at hg
              rw [if_neg e] at h1
              obtain ⟨_, _, _, hl2⟩ := row_block (M.fils.1 g z hg).2.1 h1
              rcases a3 with e3 | ⟨j', e3, hj3⟩
              · rw [e3] at h2
                exact e (M.fils.2 g f z y j hg hff h1 h2)
              · rw [e3] at h2
                cases h2
                omega
            by_cases e : g = f
            · by_cases e' : g' = f
              · rw [e, e']
              · exact (key g' z' j hg' e' hj' (by simpa [e] using hj)).elim
            · by_cases e' : g' = f
              · exact (key g z j hg e hj (by simpa [e'] using hj')).elim
              · have hg2 : upd S.fil f (y.1 ++ xs, y.2) g = some z := hg
                have hg3 : upd S.fil f (y.1 ++ xs, y.2) g' = some z' := hg'
                rw [upd_other _ _ e] at hg2
                rw [upd_other _ _ e'] at hg3
                exact M.fils.2 g g' z z' j hg2 hg3 (by simpa [e] using hj) (by simpa [e'] using hj')
        · refine ok.files _ (S.ops + 1) (by omega) (by omega) fun g z hg => ?_
          by_cases e : g = f
          · exact ⟨(y.1 ++ xs, y.2), by rw [e, upd_same]⟩
          · exact ⟨z, by rw [upd_other _ _ e]; exact hg⟩
        · rcases e with e | e | e
          · exact .inl e
          · exact .inr (by rw [e]; exact g6)
          · exact .inr (g7 j e)
end
end Go.Proofs.Ytolaagbdnchhiaa.Land
