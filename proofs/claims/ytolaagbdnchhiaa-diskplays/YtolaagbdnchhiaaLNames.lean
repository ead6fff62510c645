/-
  The names of a disk; what is read of it; a byte that is turned.
-/
import Derived.Test.YtolaagbdnchhiaaLRead
set_option linter.unusedVariables false
set_option linter.unusedSimpArgs false
namespace Go.Proofs.Ytolaagbdnchhiaa.Land
open Go.RowKit Go.Maps Go.Sort

theorem before_lt : ∀ x y : List UInt8, bytesBefore x y = true → x < y
  | [], [], h => by cases h
  | [], _ :: _, _ => List.nil_lt_cons _ _
  | _ :: _, [], h => by cases h
  | a :: x, b :: y, h => by
    have h' : (decide (a < b) || (a == b && bytesBefore x y)) = true := h
    rw [List.cons_lt_cons_iff]
    simp at h'
    rcases h' with h1 | ⟨h1, h2⟩
    · exact .inl h1
    · exact .inr ⟨h1, before_lt x y h2⟩
def dnames (D : PDir) : List ByteArray := D.map fun p => ks p.1
theorem nm_mp {D : PDir} (ρ : Nat → Nat) (h : Rise D) (ht : Txt D) : nm (mp ρ D) = dnames D := by
  have e1 : strKeys (mp ρ D) = D.map fun p => (ks p.1).data.toList := by
    unfold mp strKeys
    simp only [List.map_map]
    apply List.map_congr_left
    intro p hp
    obtain ⟨s, e⟩ := ht p hp
    show strOf p.1 = (ks p.1).data.toList
    rw [e]
    rfl
  have e2 : (D.map fun p => (ks p.1).data.toList).Pairwise (fun x y => decide (x ≤ y) = true) := by
    rw [List.pairwise_map]
    refine List.Pairwise.imp_of_mem ?_ h
    intro p q hp hq hb
    obtain ⟨s, e⟩ := ht p hp
    obtain ⟨t, e'⟩ := ht q hq
    rw [e, e'] at hb ⊢
    have := before_lt _ _ (show bytesBefore s.data.toList t.data.toList = true from hb)
    rw [ks_kl, ks_kl]
    exact decide_eq_true (List.le_of_lt this)
  unfold nm dnames
  rw [e1, List.mergeSort_of_pairwise e2, List.map_map]
  apply List.map_congr_left
  intro p hp
  show ByteArray.mk (ks p.1).data.toList.toArray = ks p.1
  simp

section
variable {w w' : World} {K : Nat → Prop} {d : Nat} {P : PD} {cutAt : Int} {cuts gone : Bool}
theorem mp_canon {D : PDir} {n : Nat} (ρ : Nat → Nat) (h : Dgood D n) : Canon (mp ρ D) := by
  refine ⟨_, rfl, List.pairwise_map.2 h.rise, fun p hp => ?_⟩
  obtain ⟨q, hq, rfl⟩ := List.mem_map.1 hp
  obtain ⟨⟨s, es, _⟩, _⟩ := h.all q hq
  show WideAt.IsKeyLit q.1
  rw [es]
  exact kl_lit s
theorem dr_names (h : DR w K d P cutAt cuts gone) (hP : P.inv) :
    Calls Try.prog 23 #[.pointer (some ⟨d, 0, none⟩)] w fun e w' => ∃ ao len cap, e = .returned (.slice ao len cap) ∧ St w' ao len cap (dnames P.now) ∧ Below w.heap.size w w' := by
  obtain ⟨S, ρ, ⟨nb, sb, sv, cs, vf, M⟩, ok, hl, _⟩ := h
  have hg := hP.now
  have hnow := hl.now ok
  rcases M.now with ⟨rfl, e⟩ | ⟨b, n, rfl, ho⟩
  · have e0 : P.now = [] := by
      rw [e] at hnow
      have h1 : (DataW.map [] : DataW Value) = mp ρ P.now := hnow
      have h2 := congrArg Maps.size h1
      rw [mp_size] at h2
      exact List.eq_nil_of_length_eq_zero h2.symm
    refine (names_nil M.dk).mono ?_
    rintro e' w' ⟨rfl, hb⟩
    rw [e0]
    exact ⟨none, 0, 0, rfl, ⟨rfl, Nat.le_refl _, Nat.zero_le _, (fun s hs => by cases hs), fun h => absurd h (by omega)⟩, hb⟩
  · have hid := own_dn ho
    rw [hid] at hnow
    have hsz := ok.szn
    refine (names_any M.dk ho (by omega)).mono ?_
    rintro e w' ⟨v, ss, rfl, hp, hrow, hnil, hb⟩
    have hm : ss.mergeSort (fun x y => decide (x ≤ y)) = (strKeys S.now).mergeSort (fun x y => decide (x ≤ y)) := mergeSort_of_perm hp
    have hnm : nm S.now = dnames P.now := by rw [hnow, nm_mp ρ hg.rise hg.txt]
    have hmem : ∀ s ∈ nm S.now, s.size ≤ maxLen := fun s hs => by
      rw [hnm] at hs
      obtain ⟨p, hp, rfl⟩ := List.mem_map.1 hs
      obtain ⟨⟨t, et, hn⟩, _⟩ := hg.all p hp
      rw [et, ks_kl]
      have := isName_size hn
      unfold maxLen
      omega
    have hlen : (nm S.now).length = ss.length := by
      unfold nm
      rw [List.length_map, ← hm, List.length_mergeSort]
    rw [← hnm]
    rcases hrow.2 with ⟨rfl, h0⟩ | ⟨g, cap, cur, rfl, hg, hh, hn, hm2, hcs, hct⟩
    · exact ⟨none, 0, 0, rfl, ⟨by omega, Nat.le_refl _, Nat.zero_le _, hmem, fun h => absurd h (by omega)⟩, hb⟩
    · refine ⟨some ⟨g, 0, none⟩, ss.length, cap, rfl, ⟨hlen, hn, hm2, hmem, fun _ => ⟨g, 0, rfl, (Array.getElem?_eq_some_iff.1 hh).1, fun i hi => ?_⟩⟩, hb⟩
      rw [Nat.zero_add, Go.Joins.cell_of_block hh, ← Array.getElem?_toList]
      have e1 : (cur.toList.take (ss.length * 1))[i]? = ((ss.mergeSort (fun x y => decide (x ≤ y))).map encStr)[i]? := by rw [hct]
      rw [List.getElem?_take_of_lt (by omega), hm] at e1
      rw [e1]
      have hi2 : i < ((strKeys S.now).mergeSort (fun x y => decide (x ≤ y))).length := by rw [← hm, List.length_mergeSort]; exact hi
      simp only [nm, List.getD, List.getElem?_map, List.getElem?_eq_getElem hi2, Option.map_some, Option.getD_some]
end

/-! ### What is read, what is turned -/
def pread (P : PD) (s : ByteArray) : Int × List Int := if isName s = false then (20, []) else match plook (kl s) P.now with | none => (21, []) | some i => (0, (P.at i).1)
def ppoke (P : PD) (s : ByteArray) (k b : Int) : Int × PD := if isName s = false then (20, P) else match plook (kl s) P.now with
  | none => (21, P)
  | some i => if k < 0 ∨ ((P.at i).1.length : Int) ≤ k then (2, P) else (0, { P with fil := P.fil.set i ((P.at i).1.set k.toNat b, (P.at i).2) })
theorem inv_poke {P : PD} (h : P.inv) (s : ByteArray) (k b : Int) (hb : 0 ≤ b ∧ b ≤ 255) : (ppoke P s k b).2.inv := by
  unfold ppoke
  split
  · exact h
  · cases e : plook (kl s) P.now with
    | none => exact h
    | some i =>
      show PD.inv (if _ then (_, _) else (_, _)).2
      split
      · exact h
      · obtain ⟨h1, h2, h3, h4⟩ := h.at e
        refine ⟨h.lo, h.hi, h.few, by show ((P.fil.set _ _).length : Int) ≤ _; rw [List.length_set]; exact h.filn, fun k hk => ?_, h.fit, set_all (Q := fun (x : List Int × Nat) => Byt x.1 ∧ x.2 ≤ x.1.length ∧ x.1.length ≤ 262144) h.fil ⟨?_, ?_, ?_⟩⟩
        · show Dgood (P.dir k) (P.fil.set _ _).length
          rw [List.length_set]
          exact h.dir k hk
        · intro x hx
          rcases List.mem_or_eq_of_mem_set hx with hx | rfl
          · exact h2 x hx
          · exact hb
        · show (P.at i).2 ≤ ((P.at i).1.set _ _).length
          rw [List.length_set]; exact h3
        · show ((P.at i).1.set _ _).length ≤ 262144
          rw [List.length_set]; exact h4

section
variable {w w' : World} {K : Nat → Prop} {d : Nat} {P : PD} {cutAt : Int} {cuts gone : Bool}
theorem own_nil (w : World) (B : Nat) : Own w B (.slice none 0 0) [] := World.ownsRow_nil _ _ _ _
theorem look_lead {S : AD} {ρ : Nat → Nat} (hl : Link S P ρ) (ok : S.ok) (s : ByteArray) : (plook (kl s) P.now = none ∧ Leads S.now s none) ∨ ∃ i, plook (kl s) P.now = some i ∧ Leads S.now s (some ⟨ρ i, 0, none⟩) ∧ S.fil (ρ i) = some (P.at i) ∧ i < P.fil.length := by
  cases e : plook (kl s) P.now with
  | none =>
    refine .inl ⟨rfl, ?_⟩
    rcases ok.lead s with ⟨_, h2⟩ | ⟨f, x, _, _, h3, _⟩
    · exact h2
    · exact absurd ((hl.lead ok h3).1 e) (by simp)
  | some i =>
    obtain ⟨h1, x, h2, h3⟩ := hl.look ok s e
    refine .inr ⟨i, rfl, ?_, by rw [at_eq h2]; exact h3, (List.getElem?_eq_some_iff.1 h2).1⟩
    have := dn_at ok.isn (kl s) (.held (.pointer none))
    exact this.symm.trans (h1 _)
theorem dr_read (h : DR w K d P cutAt cuts gone) (hP : P.inv) (s : ByteArray) (hs : s.size ≤ maxLen) :
    Calls Try.prog 22 #[.pointer (some ⟨d, 0, none⟩), .string s] w fun e w' => ∃ v, e = .returned (.tuple #[v, .int .i64 (if gone then 24 else (pread P s).1)]) ∧ Own w' w.heap.size v (if gone then [] else (pread P s).2) ∧ Below w.heap.size w w' := by
  obtain ⟨S, ρ, ⟨nb, sb, sv, cs, vf, M⟩, ok, hl, rfl, rfl, hgo⟩ := h
  have hdk := M.dk
  cases gone with
  | true =>
    rw [hgo] at hdk
    refine (read_off hdk s).mono ?_
    rintro e w' ⟨rfl, rfl⟩
    exact ⟨_, rfl, own_nil _ _, Below.refl _ _⟩
  | false =>
    rw [hgo] at hdk
    show Calls _ _ _ _ fun e w' => ∃ v, e = .returned (.tuple #[v, .int .i64 (pread P s).1]) ∧ Own w' w.heap.size v (pread P s).2 ∧ _
    unfold pread
    cases hn : isName s with
    | false =>
      rw [if_pos rfl]
      refine (read_bad hdk s hs hn).mono ?_
      rintro e w' ⟨rfl, rfl⟩
      exact ⟨_, rfl, own_nil _ _, Below.refl _ _⟩
    | true =>
      rw [if_neg (by decide)]
      rcases look_lead hl ok s with ⟨e, hL⟩ | ⟨i, e, hL, hf, hi⟩
      · rw [e]
        refine (read_none hdk M.now s hn hL).mono ?_
        rintro e w' ⟨rfl, rfl⟩
        exact ⟨_, rfl, own_nil _ _, Below.refl _ _⟩
      · rw [e]
        obtain ⟨g1, g2, g3, g4, g5, g6⟩ := M.fils.1 _ _ hf
        obtain ⟨ao, l, cap, hv, hsl, _⟩ := g2.sl' g3
        rw [hv] at g1
        exact read_ok hdk M.now s hn (ρ i) _ hL ao l cap _ g1 hsl (by have := hsl.1; omega)
/-- The bytes of a file are other ones. -/
theorem mem_bytes {S : AD} {nb sb : Option Nat} {sv : Value} {cs : List Value} {vf : Nat → Value} (M : Mem w K d S nb sb sv cs vf) {f : Nat} {y : List Int × Nat} (hf : S.fil f = some y) {ys : List Int} (hl : ys.length = y.1.length) (hb : Byt ys) (ho : Own w' 0 (vf f) ys) (F : Fr (fun j => (vf f).ownBlock = some j) w w') :
    Mem w' K d { S with fil := upd S.fil f (ys, y.2) } nb sb sv cs vf := by
  obtain ⟨g1, g2, g3, g4, g5, g6, g7⟩ := M.fils.1 f y hf
  have ec : ∀ (j : Nat) (cur : Array Value) (t : TypeId), t ≠ 5 → w.heap[j]? = some (Obj.cells cur t (0, 0)) → w'.heap[j]? = w.heap[j]? := fun j cur t ht hh => F.block j (Array.getElem?_eq_some_iff.1 hh).1 fun e => by
    obtain ⟨cur', hh', _⟩ := row_block g2 e
    rw [hh] at hh'
    simp at hh'
    exact ht hh'.2
  have em : ∀ j, (nb = some j ∨ sb = some j) → w'.heap[j]? = w.heap[j]? := fun j hj => F.block j (by
    rcases hj with e | e
    · exact dir_lt M.now j e
    · exact dir_lt M.syn j e) fun e => by
    obtain ⟨cur', hh', _⟩ := row_block g2 e
    rcases hj with e | e
    · exact dir_cells M.now hh' e
    · exact dir_cells M.syn hh' e
  refine ⟨M.dk.same (F.block _ M.dk.lt fun e => ?_), Dir.same M.now fun j e => em j (.inl e), Dir.same M.syn fun j e => em j (.inr e), M.nlo, M.slo, M.ne, row_same M.row fun j e => ?_, M.rlo, fun i ch hi => ?_, ⟨fun g z hg => ?_, fun g g' z z' j hg hg' hj hj' => ?_⟩⟩
  · obtain ⟨cur', hh', _⟩ := row_block g2 e
    exact dk_cells M.dk (by decide) hh' rfl
  · obtain ⟨cur, hh, _⟩ := row_block M.row e
    exact ec _ _ _ (by decide) hh
  · obtain ⟨c, b1, b2, hbx⟩ := M.chs i ch hi
    exact ⟨c, b1, b2.same2 (fun j cur t ht hh => ec _ _ _ (by rcases ht with rfl | rfl <;> decide) hh), hbx⟩
  · have hg' : upd S.fil f (ys, y.2) g = some z := hg
    by_cases e : g = f
    · subst e
      rw [upd_same] at hg'
      cases hg'
      exact ⟨(ec _ _ _ (by decide) g1).trans g1, ho, hb, by show y.2 ≤ ys.length; omega, by show ys.length ≤ 262144; omega, g6, g7⟩
    · rw [upd_other _ _ e] at hg'
      obtain ⟨k1, k2, k3⟩ := M.fils.1 g z hg'
      refine ⟨(ec _ _ _ (by decide) k1).trans k1, row_same k2 fun j ej => ?_, k3⟩
      obtain ⟨cur, hh, _, hl2⟩ := row_block k2 ej
      exact F.block j hl2 fun e2 => e (M.fils.2 g f z y j hg' hf ej e2)
  · have back : ∀ g z, upd S.fil f (ys, y.2) g = some z → ∃ z', S.fil g = some z' := fun g z hg => by
      by_cases e : g = f
      · subst e; exact ⟨y, hf⟩
      · rw [upd_other _ _ e] at hg
        exact ⟨z, hg⟩
    obtain ⟨a, ha⟩ := back g z hg
    obtain ⟨a', ha'⟩ := back g' z' hg'
    exact M.fils.2 g g' a a' j ha ha' hj hj'
theorem bc_set (xs : List Int) (k : Nat) (b : Int) : bc (xs.set k b) = (bc xs).set k (.int .u8 b) := by
  unfold bc
  rw [List.map_set]
theorem dr_poke (h : DR w K d P cutAt cuts gone) (hP : P.inv) (s : ByteArray) (hs : s.size ≤ maxLen) (k b : Int) (hb : 0 ≤ b ∧ b ≤ 255) :
    Calls Try.prog 37 #[.pointer (some ⟨d, 0, none⟩), .string s, .int .i64 k, .int .u8 b] w fun e w' => e = .returned (.int .i64 (ppoke P s k b).1) ∧ DR w' K d (ppoke P s k b).2 cutAt cuts gone ∧ Fr K w w' := by
  have hcopy := h
  obtain ⟨S, ρ, ⟨nb, sb, sv, cs, vf, M⟩, ok, hl, rfl, rfl, rfl⟩ := h
  have hdk := M.dk
  unfold ppoke
  cases hn : isName s with
  | false =>
    rw [if_pos rfl]
    refine (poke_bad hdk s hs hn k b).mono ?_
    rintro e w' ⟨rfl, rfl⟩
    exact ⟨rfl, hcopy, Fr.refl _ _⟩
  | true =>
    rw [if_neg (by decide)]
    rcases look_lead hl ok s with ⟨e, hL⟩ | ⟨i, e, hL, hf, hi⟩
    · rw [e]
      refine (poke_none hdk M.now s hn hL k b).mono ?_
      rintro e w' ⟨rfl, rfl⟩
      exact ⟨rfl, hcopy, Fr.refl _ _⟩
    · rw [e]
      obtain ⟨g1, g2, g3, g4, g5, g6, g7⟩ := M.fils.1 _ _ hf
      obtain ⟨ao, l, cap, hv, hsl, _⟩ := g2.sl' g3
      have hll : l = (P.at i).1.length := hsl.1.symm
      have g1' := g1
      rw [hv] at g1'
      show Calls _ _ _ _ fun e w' => e = .returned (.int .i64 (if k < 0 ∨ ((P.at i).1.length : Int) ≤ k then (2, P) else _).1) ∧ DR w' K d (if k < 0 ∨ ((P.at i).1.length : Int) ≤ k then (2, P) else _).2 _ _ _ ∧ _
      by_cases hk : k < 0 ∨ ((P.at i).1.length : Int) ≤ k
      · rw [if_pos hk]
        refine (poke_arg hdk M.now s hn (ρ i) _ hL ao l cap g1' k b (by omega)).mono ?_
        rintro e w' ⟨rfl, q, rfl⟩
        exact ⟨rfl, hcopy.below ⟨rfl, rfl, rfl, Nat.le_refl _, fun _ _ => rfl⟩, (Fr.refl _ _).drewN q⟩
      · rw [if_neg hk]
        obtain ⟨k', rfl⟩ : ∃ k' : Nat, k = (k' : Int) := ⟨k.toNat, by omega⟩
        have g2' := g2
        rw [hv] at g2'
        obtain ⟨g, rfl⟩ : ∃ g, ao = some ⟨g, 0, none⟩ := by
          rcases Go.Joins.ownsRow_forms g2' with ⟨e, h0⟩ | ⟨g, c2, e⟩
          · omega
          · cases e; exact ⟨g, rfl⟩
        refine (poke_ok hdk M.now s hn (ρ i) _ hL g l cap _ g1' g2' k' (by omega) (by omega) b).mono ?_
        rintro e w' ⟨rfl, q, rfl⟩
        have hst := World.ownsRow.stored (w := w.drewN q) (base := 0) (e := 5) (size := 1) (g := g) (n := (P.at i).1.length) (cap := cap) (xs := bc (P.at i).1) (by rw [hll] at g2'; exact g2') k' (.int .u8 b)
        have hF : Fr (fun j => (vf (ρ i)).ownBlock = some j) w ((w.drewN q).setCell ⟨g, k', none⟩ (.int .u8 b)) := by
          refine ((Fr.refl _ w).drewN q).trans (G := fun j => j = g) (Fr.grown hst.2 (fun j e => by cases e; rfl)) fun j e => .inl ?_
          rw [hv, e]
          rfl
        have hM := mem_bytes M hf (ys := (P.at i).1.set k' b) (by simp) (fun x hx => by
          rcases List.mem_or_eq_of_mem_set hx with hx | rfl
          · exact g3 x hx
          · exact hb) (by
          rw [hv, hll]
          unfold Own
          rw [bc_set, List.length_set]
          exact hst.1) hF
        refine ⟨rfl, ⟨{ S with fil := upd S.fil (ρ i) ((P.at i).1.set k' b, (P.at i).2) }, ρ, ⟨nb, sb, sv, cs, vf, hM⟩, ?_, ?_, rfl, rfl, rfl⟩, hF.mono fun j _ e => g7 j e⟩
        · refine ok.files _ S.ops (Int.le_refl _) ok.hi fun g y hg => ?_
          by_cases e : g = ρ i
          · exact ⟨_, by rw [e, upd_same]⟩
          · exact ⟨y, by rw [upd_other _ _ e]; exact hg⟩
        · have := hl.files (fil' := upd S.fil (ρ i) ((P.at i).1.set k' b, (P.at i).2)) (pf := P.fil.set i ((P.at i).1.set k' b, (P.at i).2)) P.n (by simp) (hl.upd hi _)
          exact ⟨hl.ops, this.len, this.road, this.fil, this.inj, this.ids⟩
end
end Go.Proofs.Ytolaagbdnchhiaa.Land
