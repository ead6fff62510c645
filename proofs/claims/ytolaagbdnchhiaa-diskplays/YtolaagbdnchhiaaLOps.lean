/-
  The operations of the disk, held against the disk told apart from memory.
-/
import Derived.Test.YtolaagbdnchhiaaLRep
set_option linter.unusedVariables false
set_option linter.unusedSimpArgs false
namespace Go.Proofs.Ytolaagbdnchhiaa.Land
open Go.RowKit Go.Maps

/-- Where a disk may have changed. -/
def KD (K : Nat → Prop) (d : Nat) (j : Nat) : Prop := j = d ∨ K j

section
variable {w w' : World} {K : Nat → Prop} {d : Nat} {S : AD}

theorem Mem.wide {nb sb : Option Nat} {sv : Value} {cs : List Value} {vf : Nat → Value} (M : Mem w K d S nb sb sv cs vf) (F : Fr (fun j => j = d ∨ nb = some j ∨ sv.ownBlock = some j) w w') : Fr (KD K d) w w' :=
  F.mono fun j _ e => by
    rcases e with e | e | e
    · exact .inl e
    · exact .inr (M.nlo j e)
    · exact .inr (M.rlo j e)

/-- A name of a map that is there. -/
theorem Mem.some {nb sb : Option Nat} {sv : Value} {cs : List Value} {vf : Nat → Value} (M : Mem w K d S nb sb sv cs vf) {s : ByteArray} {a : Addr} (hl : Leads S.now s (some a)) : ∃ b n, nb = Option.some b ∧ w.ownsMap Try.prog 9 RV b n S.now := by
  rcases M.now with ⟨rfl, e⟩ | ⟨b, n, rfl, ho⟩
  · rw [e] at hl
    cases hl
  · exact ⟨b, n, rfl, ho⟩

theorem rep_delete (h : Rep w K d S) (ok : S.ok) (hon : On S.ops S.cutAt S.cuts S.gone) (hK : ∀ j, w.heap.size ≤ j → K j) (s : ByteArray) (hs : s.size ≤ maxLen) :
    Calls Try.prog 17 #[.pointer (some ⟨d, 0, none⟩), .string s] w fun e w' => ∃ x S', e = .returned (.int .i64 x) ∧ Rep w' K d S' ∧ S'.ok ∧ Fr (KD K d) w w' ∧ (x ≠ 0 → S' = S) ∧ (x = 0 → S' = S.did (.del s) ∧ isName s = true) ∧
      ∃ p, Leads S.now s p ∧ x = code (isName s) p S.ops := by
  obtain ⟨nb, sb, sv, cs, vf, M⟩ := h
  obtain ⟨p, hp, hpf⟩ : ∃ p, Leads S.now s p ∧ (∀ a, p = some a → ∃ f x, a = ⟨f, 0, none⟩ ∧ Maps.has (dn S.now) (kl s) = true ∧ S.fil f = some x) := by
    rcases ok.lead s with ⟨_, h2⟩ | ⟨f, x, h1, h2, h3, h4⟩
    · exact ⟨none, h2, fun a e => by cases e⟩
    · exact ⟨_, h3, fun a e => by cases e; exact ⟨f, x, rfl, h1, h4⟩⟩
  by_cases hz : code (isName s) p S.ops = 0
  · obtain ⟨hn, ⟨a, rfl⟩, hop⟩ := code_zero hz
    obtain ⟨b, n, rfl, ho⟩ := M.some hp
    have hch := ok.few
    have hhi := ok.hi
    obtain ⟨f, x, rfl, hhas, hff⟩ := hpf a rfl
    refine (delete_ok M.dk hon ho M.row (Nat.zero_le _) (by omega) (by have := ok.szn; omega) ok.lo hop s hn _ hp).mono ?_
    rintro e w' ⟨nb', b', sv', rfl, h1, h2, rfl, h4, h5, h6, h7, h8⟩
    have F : Fr (fun j => j = d ∨ some b' = some j ∨ sv.ownBlock = some j) w w' := h8.mono fun j _ e => by
      rcases e with e | e | e
      · exact .inl e
      · exact .inr (.inl (by rw [e]))
      · exact .inr (.inr e)
    have hid : dn S.now = S.now := own_dn ho
    refine ⟨0, S.did (.del s), rfl, ⟨some b', sb, sv', cs ++ [dlCl nb'], vf, ?_⟩, ?_, M.wide F, fun e => absurd rfl e, fun _ => ⟨rfl, hn⟩, _, hp, hz.symm⟩
    · have := M.change hK (.inl rfl) h4 h5 h6 (ch := .del s) (show ChAt w' (dlCl nb') (.del s) from ⟨nb', rfl, h2, (isName_size hn).2⟩) (fun j hj => by rw [boxes_dl] at hj; simp at hj; subst hj; exact hK _ h1) h7 F (M.files F)
      unfold AD.did
      rw [show (Ch.del s).run (dn S.now) = S.now.del (kl s) by rw [hid]; rfl]
      exact this
    · refine ok.step (.del s) S.fil hop (fun f x hf => ⟨x, hf⟩) (IsMap.del (dn_map ok.isn) _) ?_ (ok.now_fine.del s)
      have := size_del_le (dn S.now) (kl s)
      rw [dn_sz ok.isn] at this
      exact Nat.le_trans this ok.szn
  · refine (delete_err M.dk hon M.now s hs p hp _ rfl hz).mono ?_
    rintro e w' ⟨rfl, hb⟩
    exact ⟨_, S, rfl, ⟨_, _, _, _, _, M.same fun j hj => hb.block j hj⟩, ok, Fr.below hb, fun _ => rfl, fun e => absurd e hz, p, hp, rfl⟩

theorem rep_rename (h : Rep w K d S) (ok : S.ok) (hon : On S.ops S.cutAt S.cuts S.gone) (hK : ∀ j, w.heap.size ≤ j → K j) (s t : ByteArray) (hs : s.size ≤ maxLen) (ht : t.size ≤ maxLen) :
    Calls Try.prog 32 #[.pointer (some ⟨d, 0, none⟩), .string s, .string t] w fun e w' => ∃ x S', e = .returned (.int .i64 x) ∧ Rep w' K d S' ∧ S'.ok ∧ Fr (KD K d) w w' ∧ (x ≠ 0 → S' = S) ∧ (x = 0 → S' = S.did (.ren s t) ∧ isName s = true ∧ isName t = true) ∧
      ∃ p, Leads S.now s p ∧ x = code (isName t && isName s) p S.ops := by
  obtain ⟨nb, sb, sv, cs, vf, M⟩ := h
  obtain ⟨p, hp, hpf⟩ : ∃ p, Leads S.now s p ∧ (∀ a, p = some a → ∃ f x, a = ⟨f, 0, none⟩ ∧ Maps.has (dn S.now) (kl s) = true ∧ S.fil f = some x) := by
    rcases ok.lead s with ⟨_, h2⟩ | ⟨f, x, h1, h2, h3, h4⟩
    · exact ⟨none, h2, fun a e => by cases e⟩
    · exact ⟨_, h3, fun a e => by cases e; exact ⟨f, x, rfl, h1, h4⟩⟩
  by_cases hz : code (isName t && isName s) p S.ops = 0
  · obtain ⟨hnn, ⟨a, rfl⟩, hop⟩ := code_zero hz
    have hn : isName s = true := by cases h1 : isName s <;> simp_all
    have hnt : isName t = true := by cases h1 : isName t <;> simp_all
    obtain ⟨b, n, rfl, ho⟩ := M.some hp
    have hch := ok.few
    have hhi := ok.hi
    obtain ⟨f, x, rfl, hhas, hff⟩ := hpf a rfl
    refine (rename_ok M.dk hon ho M.row (Nat.zero_le _) (by omega) (by have := ok.szn; omega) ok.lo hop s t hn hnt _ hp).mono ?_
    rintro e w' ⟨nb', mb', sv', rfl, h1, h1', h2, h3, h4, h5, h6, h7, h8⟩
    have F : Fr (fun j => j = d ∨ some b = some j ∨ sv.ownBlock = some j) w w' := h8.mono fun j _ e => by
      rcases e with e | e | e
      · exact .inl e
      · exact .inr (.inl (by rw [e]))
      · exact .inr (.inr e)
    have hid : dn S.now = S.now := own_dn ho
    have hrun : (Ch.ren s t).run (dn S.now) = (S.now.del (kl s)).put (kl t) (pt f) := by
      rw [hid]
      show (S.now.del (kl s)).put (kl t) (S.now.atKey (kl s) no) = _
      rw [show S.now.atKey (kl s) no = pt f from hp]
    refine ⟨0, S.did (.ren s t), rfl, ⟨some b, sb, sv', cs ++ [rnCl nb' mb'], vf, ?_⟩, ?_, M.wide F, fun e => absurd rfl e, fun _ => ⟨rfl, hn, hnt⟩, _, hp, hz.symm⟩
    · have := M.change hK (.inl rfl) h4 h5 h6 (ch := .ren s t) (show ChAt w' (rnCl nb' mb') (.ren s t) from ⟨nb', mb', rfl, h2, h3, (isName_size hn).2, (isName_size hnt).2⟩) (fun j hj => by rw [boxes_rn] at hj; simp at hj; rcases hj with rfl | rfl; exact hK _ h1; exact hK _ h1') h7 F (M.files F)
      unfold AD.did
      rw [hrun]
      exact this
    · refine ok.step (.ren s t) S.fil hop (fun f x hf => ⟨x, hf⟩) ?_ ?_ ?_
      · rw [hrun]; exact (ho.isMap.del _).put _ _
      · rw [hrun]
        have h1 := size_put_le (S.now.del (kl s)) (kl t) (pt f)
        have h2 := size_del_lt (D := S.now) (k := kl s) (by rw [← hid]; exact hhas)
        have := ok.szn
        omega
      · rw [hrun]
        refine Fine.put (Fine.del ?_ s) (ho.isMap.del _) t f x hff hnt
        have := ok.now_fine
        rwa [hid] at this
  · refine (rename_err M.dk hon M.now s t hs ht p hp _ rfl hz).mono ?_
    rintro e w' ⟨rfl, hb⟩
    exact ⟨_, S, rfl, ⟨_, _, _, _, _, M.same fun j hj => hb.block j hj⟩, ok, Fr.below hb, fun _ => rfl, fun e => absurd e hz, p, hp, rfl⟩

theorem rep_sync (h : Rep w K d S) (ok : S.ok) (hon : On S.ops S.cutAt S.cuts S.gone) (hK : ∀ j, w.heap.size ≤ j → K j) (s : ByteArray) (hs : s.size ≤ maxLen) :
    Calls Try.prog 19 #[.pointer (some ⟨d, 0, none⟩), .string s] w fun e w' => ∃ x S', e = .returned (.int .i64 x) ∧ Rep w' K d S' ∧ S'.ok ∧ Fr (KD K d) w w' ∧ (x ≠ 0 → S' = S) ∧
      (x = 0 → ∃ f y, (∀ z, (dn S.now).atKey (kl s) z = pt f) ∧ S.fil f = some y ∧ S' = S.synced f y ∧ isName s = true) ∧ ∃ p, Leads S.now s p ∧ x = code (isName s) p S.ops := by
  obtain ⟨nb, sb, sv, cs, vf, M⟩ := h
  obtain ⟨p, hp, hpf⟩ : ∃ p, Leads S.now s p ∧ (∀ a, p = some a → ∃ f x, a = ⟨f, 0, none⟩ ∧ (∀ z, (dn S.now).atKey (kl s) z = pt f) ∧ S.fil f = some x) := by
    rcases ok.lead s with ⟨_, h2⟩ | ⟨f, x, h1, h2, h3, h4⟩
    · exact ⟨none, h2, fun a e => by cases e⟩
    · exact ⟨_, h3, fun a e => by cases e; exact ⟨f, x, rfl, h2, h4⟩⟩
  by_cases hz : code (isName s) p S.ops = 0
  · obtain ⟨hn, ⟨a, rfl⟩, hop⟩ := code_zero hz
    obtain ⟨f, x, rfl, hat, hff⟩ := hpf a rfl
    obtain ⟨g1, g2, g3, g4, g5, g6, g7⟩ := M.fils.1 f x hff
    obtain ⟨ao, l, cap, hv, hsl, _⟩ := g2.sl' g3
    have hl : l = x.1.length := hsl.1.symm
    rw [hv] at g1
    refine (sync_ok M.dk hon M.now ok.lo s hn f x.2 l cap ao hp hop g1).mono ?_
    rintro e w' ⟨rfl, h1, h2, F⟩
    have hdl := M.dk
    have ec : ∀ (j : Nat) (cur : Array Value) (t : TypeId), t ≠ 61 → j ≠ f → w.heap[j]? = some (Obj.cells cur t (0, 0)) → w'.heap[j]? = w.heap[j]? := fun j cur t ht hj hh => F.block j (Array.getElem?_eq_some_iff.1 hh).1 (by
      rintro (e | e)
      · exact dk_cells M.dk ht hh e
      · exact hj e)
    have ef : ∀ (j : Nat) (cur : Array Value) (t : TypeId), t ≠ 81 → w.heap[j]? = some (Obj.cells cur t (0, 0)) → j ≠ f := fun j cur t ht hh e => by
      have g1' : w.heap[f]? = _ := g1
      rw [e, g1'] at hh
      simp at hh
      exact ht hh.2.symm
    have em : ∀ j, (nb = some j ∨ sb = some j) → w'.heap[j]? = w.heap[j]? := fun j hj => F.block j (by
      rcases hj with e | e
      · exact dir_lt M.now j e
      · exact dir_lt M.syn j e) (by
      rintro (e | e)
      · subst e
        rcases hj with e | e
        · exact dir_cells M.now M.dk e
        · exact dir_cells M.syn M.dk e
      · subst e
        rcases hj with e | e
        · exact dir_cells M.now g1 e
        · exact dir_cells M.syn g1 e)
    have hdisk : (5 : TypeId) ≠ 61 ∧ (5 : TypeId) ≠ 81 := by decide
    refine ⟨0, S.synced f x, rfl, ⟨nb, sb, sv, cs, vf, ?_⟩, ?_, F.mono fun j _ e => ?_, fun e => absurd rfl e, fun _ => ⟨f, x, hat, hff, rfl, hn⟩, _, hp, hz.symm⟩
    · refine ⟨h1, Dir.same M.now fun j e => em j (.inl e), Dir.same M.syn fun j e => em j (.inr e), M.nlo, M.slo, M.ne, row_same M.row fun j e => ?_, M.rlo, fun i ch hi => ?_, ⟨fun g y hg => ?_, fun g g' y y' j hg hg' => ?_⟩⟩
      · obtain ⟨cur, hh, _⟩ := row_block M.row e
        exact ec _ _ _ (by decide) (ef _ _ _ (by decide) hh) hh
      · obtain ⟨c, a1, a2, hbx⟩ := M.chs i ch hi
        exact ⟨c, a1, a2.same2 (fun j cur t ht hh => ec _ _ _ (by rcases ht with rfl | rfl <;> decide) (ef _ _ _ (by rcases ht with rfl | rfl <;> decide) hh) hh), hbx⟩
      · by_cases e : g = f
        · subst e
          have hg' : (if g = g then some (x.1, x.1.length) else S.fil g) = some y := hg
          rw [if_pos rfl] at hg'
          cases hg'
          refine ⟨?_, row_same g2 fun j ej => ?_, g3, Nat.le_refl _, g5, g6, g7⟩
          · show Fl w' g (vf g) x.1.length
            rw [hv, ← hl]
            exact h2
          · obtain ⟨cur, hh, _⟩ := row_block g2 ej
            exact ec _ _ _ hdisk.1 (ef _ _ _ hdisk.2 hh) hh
        · have hg' : (if g = f then some (x.1, x.1.length) else S.fil g) = some y := hg
          rw [if_neg e] at hg'
          obtain ⟨k1, k2, k3⟩ := M.fils.1 g y hg'
          refine ⟨(ec _ _ _ (by decide) e k1).trans k1, row_same k2 fun j ej => ?_, k3⟩
          obtain ⟨cur, hh, _⟩ := row_block k2 ej
          exact ec _ _ _ hdisk.1 (ef _ _ _ hdisk.2 hh) hh
      · have back : ∀ g y, (S.synced f x).fil g = some y → ∃ y', S.fil g = some y' := fun g y hg => by
          by_cases e : g = f
          · subst e; exact ⟨x, hff⟩
          · have hg' : (if g = f then some (x.1, x.1.length) else S.fil g) = some y := hg
            rw [if_neg e] at hg'
            exact ⟨y, hg'⟩
        obtain ⟨z, hz⟩ := back g y hg
        obtain ⟨z', hz'⟩ := back g' y' hg'
        exact M.fils.2 g g' z z' j hz hz'
    · refine ok.files _ (S.ops + 1) (by omega) (by omega) fun g y hg => ?_
      by_cases e : g = f
      · exact ⟨(x.1, x.1.length), by simp [e]⟩
      · exact ⟨y, by simp [e, hg]⟩
    · rcases e with e | e
      · exact .inl e
      · exact .inr (by rw [e]; exact g6)
  · refine (sync_err M.dk hon M.now s hs p hp _ rfl hz).mono ?_
    rintro e w' ⟨rfl, q, rfl⟩
    exact ⟨_, S, rfl, ⟨_, _, _, _, _, M.same fun j hj => rfl⟩, ok, (Fr.refl _ _).drewN q, fun _ => rfl, fun e => absurd e hz, p, hp, rfl⟩

theorem rep_syncDir (h : Rep w K d S) (ok : S.ok) (hon : On S.ops S.cutAt S.cuts S.gone) (hK : ∀ j, w.heap.size ≤ j → K j) :
    Calls Try.prog 20 #[.pointer (some ⟨d, 0, none⟩)] w fun e w' => ∃ x S', e = .returned (.int .i64 x) ∧ Rep w' K d S' ∧ S'.ok ∧ Fr (KD K d) w w' ∧ x = (if 65536 ≤ S.ops then 23 else 0) ∧ S' = if 65536 ≤ S.ops then S else S.dirSynced := by
  obtain ⟨nb, sb, sv, cs, vf, M⟩ := h
  by_cases hop : 65536 ≤ S.ops
  · refine (syncDir_full M.dk hon hop).mono ?_
    rintro e w' ⟨rfl, q, rfl⟩
    exact ⟨_, S, rfl, ⟨_, _, _, _, _, M.same fun j hj => rfl⟩, ok, (Fr.refl _ _).drewN q, by rw [if_pos hop], by rw [if_pos hop]⟩
  · refine (syncDir_ok M.dk hon M.now (by have := ok.szn; omega) ok.lo (by omega)).mono ?_
    rintro e w' ⟨b, rfl, hb, h1, h2, F⟩
    have ec : ∀ (j : Nat) (cur : Array Value) (t : TypeId), t ≠ 61 → w.heap[j]? = some (Obj.cells cur t (0, 0)) → w'.heap[j]? = w.heap[j]? := fun j cur t ht hh => F.block j (Array.getElem?_eq_some_iff.1 hh).1 (dk_cells M.dk ht hh)
    refine ⟨0, S.dirSynced, rfl, ⟨nb, some b, .slice none 0 0, [], vf, ?_⟩, ok.sync (by omega), F.mono fun j _ e => .inl e, by rw [if_neg hop], by rw [if_neg hop]⟩
    refine ⟨h1, Dir.same M.now fun j e => F.block j (dir_lt M.now j e) (fun e2 => by subst e2; exact dir_cells M.now M.dk e), .inr ⟨b, _, rfl, h2⟩, M.nlo, (fun j e => by cases e; exact hK _ hb), fun j e e2 => ?_, World.ownsRow_nil _ _ _ _, (fun j e => by cases e), (fun i ch hi => by cases hi), M.fils.same fun j cur t ht hh => ec j cur t (by rcases ht with rfl | rfl <;> decide) hh⟩
    cases e2
    have := dir_lt M.now _ e
    omega
end
end Go.Proofs.Ytolaagbdnchhiaa.Land
