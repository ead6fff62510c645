/-
  A crash: the whole of the new disk.
-/
import Derived.Test.YtolaagbdnchhiaaLCrash
import Derived.Test.YtolaagbdnchhiaaPInv
set_option linter.unusedVariables false
set_option linter.unusedSimpArgs false
namespace Go.Proofs.Ytolaagbdnchhiaa.Land
open Go.RowKit Go.Maps

/-! ### Rows that are numbered anew -/
def renum (D : PDir) : PDir := D.zipIdx.map fun q => (q.1.1, q.2)
theorem renum_at (D : PDir) (i : Nat) : (renum D)[i]? = D[i]?.map fun p => (p.1, i) := by
  unfold renum
  rw [List.getElem?_map, List.getElem?_zipIdx]
  cases D[i]? <;> simp
theorem renum_len (D : PDir) : (renum D).length = D.length := by simp [renum]
theorem renum_keys (D : PDir) : (renum D).map (·.1) = D.map (·.1) := by
  apply List.ext_getElem?
  intro i
  rw [List.getElem?_map, List.getElem?_map, renum_at]
  cases D[i]? <;> rfl
theorem renum_rise {D : PDir} (h : Rise D) : Rise (renum D) := by
  have h1 : (D.map (·.1)).Pairwise (fun a b => a.before b = true) := List.pairwise_map.2 h
  rw [← renum_keys] at h1
  exact List.pairwise_map.1 h1
theorem renum_mem {D : PDir} {p : Lit × Nat} (h : p ∈ renum D) : ∃ q, D[p.2]? = some q ∧ q.1 = p.1 := by
  obtain ⟨i, hi⟩ := List.mem_iff_getElem?.1 h
  rw [renum_at] at hi
  cases e : D[i]? with
  | none => rw [e] at hi; cases hi
  | some q =>
    rw [e] at hi
    cases hi
    exact ⟨q, e, rfl⟩
theorem look_at : ∀ {D : PDir} {i : Nat} {p : Lit × Nat}, Rise D → Txt D → D[i]? = some p → plook p.1 D = some p.2
  | [], _, _, _, _, h => by cases h
  | y :: r, 0, p, h, ht, hi => by
    cases hi
    obtain ⟨s, e⟩ := ht y (by simp)
    have hs : y.1.sameKey y.1 = true := by rw [e, same_kl]; simp
    simp [plook, hs]
  | y :: r, i + 1, p, h, ht, hi => by
    obtain ⟨h1, h2⟩ := List.pairwise_cons.1 h
    have hi' : r[i]? = some p := by simpa using hi
    have hb := h1 p (List.mem_of_getElem? hi')
    have ih := look_at (D := r) h2 (fun q hq => ht q (by simp [hq])) hi'
    have hs : y.1.sameKey p.1 = false := by
      obtain ⟨s, e⟩ := ht y (by simp)
      obtain ⟨t, e2⟩ := ht p (by simp [List.mem_of_getElem? hi'])
      rw [e, e2, same_kl]
      have : s ≠ t := fun e3 => by
        rw [e, e2, e3, WideShapes.before_irrefl] at hb
        cases hb
      simpa using this
    unfold plook at ih ⊢
    rw [List.find?_cons, hs]
    exact ih
theorem look_idx {D : PDir} {s : ByteArray} {a : Nat} (ht : Txt D) (h : plook (kl s) D = some a) : ∃ i : Nat, D[i]? = some (kl s, a) := by
  obtain ⟨p, hp, e1, e2⟩ := look_mem h
  obtain ⟨i, hi⟩ := List.mem_iff_getElem?.1 hp
  obtain ⟨t, e3⟩ := ht p hp
  rw [e3, same_kl] at e2
  have e4 : t = s := by simpa using e2
  refine ⟨i, ?_⟩
  rw [hi, show p = (kl s, a) from Prod.ext (by rw [e3, e4]) e1]
theorem renum_good {D : PDir} {n : Nat} (h : Dgood D n) : Dgood (renum D) D.length := by
  refine ⟨renum_rise h.rise, by rw [renum_len]; exact h.len, fun p hp => ?_⟩
  obtain ⟨q, hq, e⟩ := renum_mem hp
  refine ⟨?_, (List.getElem?_eq_some_iff.1 hq).1⟩
  rw [← e]
  exact (h.all q (List.mem_of_getElem? hq)).1
theorem renum_look {D : PDir} {n : Nat} (h : Dgood D n) {i : Nat} {p : Lit × Nat} (hi : D[i]? = some p) : plook p.1 (renum D) = some i := by
  have := look_at (D := renum D) (i := i) (p := (p.1, i)) (renum_rise h.rise) (renum_good h).txt (by rw [renum_at, hi]; rfl)
  exact this

def crashed (P : PD) (ke di te : Int) : PD := ⟨renum (P.cdir di), [], (P.cdir di).map fun p => (leftOf ke te (P.at p.2), (leftOf ke te (P.at p.2)).length), 0⟩
theorem cdir_good {P : PD} (h : P.inv) (di : Int) : Dgood (P.cdir di) P.fil.length := h.dir _ (shr_le di _)
theorem at_good {P : PD} (h : P.inv) {D : PDir} (hD : Dgood D P.fil.length) {p : Lit × Nat} (hp : p ∈ D) : P.fil[p.2]? = some (P.at p.2) ∧ Byt (P.at p.2).1 ∧ (P.at p.2).2 ≤ (P.at p.2).1.length ∧ (P.at p.2).1.length ≤ 262144 := by
  have hl := (hD.all p hp).2
  have e := List.getElem?_eq_getElem hl
  have e2 : P.at p.2 = P.fil[p.2] := at_eq e
  rw [e2]
  exact ⟨e, h.fil _ _ e⟩
theorem inv_crashed {P : PD} (h : P.inv) (ke di te : Int) : (crashed P ke di te).inv := by
  have hD := cdir_good h di
  have hl := hD.len
  refine ⟨by show (0 : Int) ≤ 0; omega, by show (0 : Int) ≤ 65536; omega, by show ((0 : Nat) : Int) ≤ 0; omega, by show (((P.cdir di).map _).length : Int) ≤ 64 + 0; simp; omega, fun k hk => ?_, (fun k c hc => by cases hc), fun i x hx => ?_⟩
  · have : k = 0 := by simpa [crashed] using hk
    subst this
    show Dgood (renum (P.cdir di)) ((P.cdir di).map _).length
    rw [List.length_map]
    exact renum_good hD
  · have hx' : ((P.cdir di).map fun p => (leftOf ke te (P.at p.2), (leftOf ke te (P.at p.2)).length))[i]? = some x := hx
    rw [List.getElem?_map] at hx'
    cases e : (P.cdir di)[i]? with
    | none => rw [e] at hx'; cases hx'
    | some p =>
      rw [e] at hx'
      cases hx'
      obtain ⟨_, h2, h3, h4⟩ := at_good h hD (List.mem_of_getElem? e)
      exact ⟨leftOf_byt h2, Nat.le_refl _, Nat.le_trans (leftOf_len _ _ _) h4⟩

theorem find_inj {n : Nat} {ρ : Nat → Nat} (inj : ∀ i j, i < n → j < n → ρ i = ρ j → i = j) {i : Nat} (hi : i < n) : (List.range n).find? (fun j => decide (ρ j = ρ i)) = some i := by
  cases e : (List.range n).find? (fun j => decide (ρ j = ρ i)) with
  | none =>
    have := List.find?_eq_none.1 e i (List.mem_range.2 hi)
    simp at this
  | some j =>
    have h1 := List.mem_range.1 (List.mem_of_find?_eq_some e)
    have h2 : ρ j = ρ i := by simpa using List.find?_some e
    rw [inj j i h1 hi h2]
theorem find_back {n : Nat} {ρ : Nat → Nat} {f i : Nat} (h : (List.range n).find? (fun j => decide (ρ j = f)) = some i) : i < n ∧ ρ i = f :=
  ⟨List.mem_range.1 (List.mem_of_find?_eq_some h), by simpa using List.find?_some h⟩
theorem leftOf_size {ke te : Int} {x : List Int × Nat} (h : x.2 ≤ x.1.length) : (leftOf ke te x).length = x.2 + shr ke (x.1.length - x.2) := by
  unfold leftOf
  rw [turnL_length, List.length_take]
  have := shr_le ke (x.1.length - x.2)
  omega

section
variable {w w' : World} {K : Nat → Prop} {d : Nat} {P : PD} {cutAt : Int} {cuts gone : Bool}
theorem dr_crash (h : DR w K d P cutAt cuts gone) (hP : P.inv) (ke di te : Int) :
    Calls Try.prog 21 #[.pointer (some ⟨d, 0, none⟩), .agg #[.int .i64 ke, .int .i64 di, .int .i64 te]] w fun e w' => ∃ d', e = .returned (.pointer (some ⟨d', 0, none⟩)) ∧ w.heap.size ≤ d' ∧
      DR w' (fun j => w.heap.size ≤ j) d' (crashed P ke di te) 0 false false ∧ Below w.heap.size w w' := by
  obtain ⟨S, ρ, ⟨nb, sb, sv, cs, vf, M⟩, ok, hl, _⟩ := h
  have hD := cdir_good hP di
  have hE := hl.cdir di
  have hfile : ∀ (i : Nat) (p : Lit × Nat), (P.cdir di)[i]? = some p → S.fil (ρ p.2) = some (P.at p.2) := fun i p hp => hl.fil _ _ (at_good hP hD (List.mem_of_getElem? hp)).1
  have h1 := ok.few
  have h2 := ok.hi
  refine (crash_any M.dk M.syn (by have := ok.szs; omega) M.row (by omega) (fun i ch hi => by obtain ⟨c, a1, a2, _⟩ := M.chs i ch hi; exact ⟨c, a1, a2⟩) ke di te _ rfl (S.crashDir di) rfl (fun k hk => ?_) (fun s hs => ?_)).mono ?_
  · have hk2 : k ≤ S.chs.length := Nat.le_trans hk (shr_le _ _)
    exact (ok.fine k hk2).good
  · obtain ⟨f, x, a1, a2, _⟩ := ok.fine _ (shr_le di S.chs.length) s hs
    obtain ⟨g1, g2, g3, g4, g5, g6⟩ := M.fils.1 f x a2
    obtain ⟨ao, l, cap, hv, hsl, _⟩ := g2.sl' g3
    have hl : l = x.1.length := hsl.1.symm
    rw [hv] at g1
    exact ⟨f, ao, l, cap, x.1, x.2, a1, g1, hsl, by omega, by omega⟩
  rintro e w' ⟨d', nb', sb', L, rfl, bd, bn, bs, bne, b1, b2, b3, b4, b5, b6, b7⟩
  refine ⟨d', rfl, bd, ?_, b7⟩
  have hex : ∀ i : Nat, ∃ fv : Nat × Value, ∀ p, (P.cdir di)[i]? = some p → (∀ z, L.atKey p.1 z = pt fv.1) ∧ w.heap.size ≤ fv.1 ∧ Fl w' fv.1 fv.2 (leftOf ke te (P.at p.2)).length ∧ Own w' w.heap.size fv.2 (leftOf ke te (P.at p.2)) := fun i => by
    cases e : (P.cdir di)[i]? with
    | none => exact ⟨(0, .slice none 0 0), fun p hp => by cases hp⟩
    | some p =>
      have hmem := List.mem_of_getElem? e
      obtain ⟨s, es, _⟩ := (hD.all p hmem).1
      have hat : ∀ z, (S.crashDir di).atKey (kl s) z = pt (ρ p.2) := fun z => by
        rw [hE, ← es]
        exact mp_at (look_at hD.rise hD.txt e) z
      have hf := hfile i p e
      obtain ⟨_, q2, q3, q4⟩ := at_good hP hD hmem
      obtain ⟨g1, g2, g3, g4, g5, g6⟩ := M.fils.1 _ _ hf
      obtain ⟨ao, l, cap, hv, hsl, _⟩ := g2.sl' g3
      have hl : l = (P.at p.2).1.length := hsl.1.symm
      rw [hv] at g1
      obtain ⟨f', v, c1, c2, c3, c4⟩ := b5 s (ρ p.2) ao l cap _ _ hat g1 hsl
      rw [hl] at c3 c4
      refine ⟨(f', v), fun p' hp' => ?_⟩
      cases hp'
      rw [leftOf_size q3, es]
      exact ⟨c1, c2, c3, c4⟩
  obtain ⟨φ, hφ⟩ := Classical.skolem.1 hex
  have hinj : ∀ i j, i < (P.cdir di).length → j < (P.cdir di).length → i ≠ j → (φ i).1 ≠ (φ j).1 ∧ ∀ k, (φ i).2.ownBlock = some k → (φ j).2.ownBlock ≠ some k := fun i j hi hj hne => by
    have ei := List.getElem?_eq_getElem hi
    have ej := List.getElem?_eq_getElem hj
    obtain ⟨a1, a2, a3, a4⟩ := hφ i _ ei
    obtain ⟨c1, c2, c3, c4⟩ := hφ j _ ej
    obtain ⟨s, es, _⟩ := (hD.all _ (List.mem_of_getElem? ei)).1
    obtain ⟨t, et, _⟩ := (hD.all _ (List.mem_of_getElem? ej)).1
    have hst : kl s ≠ kl t := fun e => hne (by
      have l1 := renum_look hD ei
      have l2 := renum_look hD ej
      rw [es, e, ← et, l2] at l1
      exact (Option.some.inj l1).symm)
    rw [es] at a1
    rw [et] at c1
    obtain ⟨r1, r2⟩ := b6.2 s t _ _ rfl rfl hst a1 c1
    exact ⟨r1, fun k hk => r2 _ _ _ _ a3 c3 k hk⟩
  have hinj2 : ∀ i j, i < (P.cdir di).length → j < (P.cdir di).length → (φ i).1 = (φ j).1 → i = j := fun i j hi hj e => by
    by_cases hne : i = j
    · exact hne
    · exact absurd e (hinj i j hi hj hne).1
  have hhas : ∀ k, Maps.has L k = (plook k (P.cdir di)).isSome := fun k => by rw [b4, hE, mp_has]
  have hcl := b2.canon dirKeyed
  have hm : IsMap L := b2.isMap
  have hre := renum_good hD
  have hLeq : L = mp (fun i => (φ i).1) (renum (P.cdir di)) := by
    refine Maps.ext hcl ⟨_, rfl, List.pairwise_map.2 hre.rise, fun p hp => ?_⟩ (fun k => ?_) (fun k z hk => ?_)
    · obtain ⟨q, hq, rfl⟩ := List.mem_map.1 hp
      obtain ⟨⟨s, es, _⟩, _⟩ := hre.all q hq
      show WideAt.IsKeyLit q.1
      rw [es]
      exact kl_lit s
    · rw [hhas, mp_has]
      have key : ∀ D : PDir, (plook k D).isSome = (D.map (·.1)).any (fun x => x.sameKey k) := fun D => by
        unfold plook
        induction D with
        | nil => rfl
        | cons y r ih =>
          simp only [List.find?_cons, List.map_cons, List.any_cons]
          cases e : y.1.sameKey k with
          | true => rfl
          | false => simpa using ih
      rw [key, key, renum_keys]
    · rw [hhas] at hk
      obtain ⟨a, ha⟩ := Option.isSome_iff_exists.1 hk
      obtain ⟨p, hp, _, hsame⟩ := look_mem ha
      have ek : p.1 = k := WideAt.sameKey_eq hsame
      obtain ⟨i, hi⟩ := List.mem_iff_getElem?.1 hp
      rw [← ek, (hφ i p hi).1, mp_at (renum_look hD hi)]
  have hL64 : Maps.size L ≤ 64 := by
    rw [hLeq, mp_size, renum_len]
    exact hD.len
  have hfil : ∀ i (x : List Int × Nat), (crashed P ke di te).fil[i]? = some x → ∃ p, (P.cdir di)[i]? = some p ∧ i < (P.cdir di).length ∧ x = (leftOf ke te (P.at p.2), (leftOf ke te (P.at p.2)).length) := fun i x hx => by
    have hx' : ((P.cdir di).map fun p => (leftOf ke te (P.at p.2), (leftOf ke te (P.at p.2)).length))[i]? = some x := hx
    rw [List.getElem?_map] at hx'
    cases e : (P.cdir di)[i]? with
    | none => rw [e] at hx'; cases hx'
    | some p =>
      rw [e] at hx'
      cases hx'
      exact ⟨p, rfl, (List.getElem?_eq_some_iff.1 e).1, rfl⟩
  have hback : ∀ f x, (((List.range (P.cdir di).length).find? (fun i => decide ((φ i).1 = f))).bind fun i => (crashed P ke di te).fil[i]?) = some x → ∃ i p, (P.cdir di)[i]? = some p ∧ i < (P.cdir di).length ∧ (φ i).1 = f ∧ (List.range (P.cdir di).length).find? (fun i => decide ((φ i).1 = f)) = some i ∧ x = (leftOf ke te (P.at p.2), (leftOf ke te (P.at p.2)).length) := fun f x hx => by
    cases e : (List.range (P.cdir di).length).find? (fun i => decide ((φ i).1 = f)) with
    | none => rw [e] at hx; cases hx
    | some i =>
      rw [e] at hx
      obtain ⟨p, hp, hi, hxe⟩ := hfil i x hx
      exact ⟨i, p, hp, hi, (find_back e).2, rfl, hxe⟩
  have hforth : ∀ i, i < (P.cdir di).length → (((List.range (P.cdir di).length).find? (fun j => decide ((φ j).1 = (φ i).1))).bind fun i => (crashed P ke di te).fil[i]?) = (crashed P ke di te).fil[i]? := fun i hi => by
    rw [find_inj (ρ := fun i => (φ i).1) hinj2 hi]
    rfl
  have hcl2 : (crashed P ke di te).fil.length = (P.cdir di).length := by show ((P.cdir di).map _).length = _; simp
  refine ⟨⟨L, L, [], fun f => ((List.range (P.cdir di).length).find? (fun i => decide ((φ i).1 = f))).bind fun i => (crashed P ke di te).fil[i]?, 0, 0, false, false⟩, fun i => (φ i).1, ⟨some nb', some sb', .slice none 0 0, [], fun f => match (List.range (P.cdir di).length).find? (fun i => decide ((φ i).1 = f)) with | some i => (φ i).2 | none => .slice none 0 0, ?_⟩, ?_, ?_, rfl, rfl, rfl⟩
  · refine ⟨b1, .inr ⟨nb', _, rfl, b2⟩, .inr ⟨sb', _, rfl, b3⟩, (fun j e => by cases e; exact bn), (fun j e => by cases e; exact bs), (fun j e e2 => by cases e; cases e2; exact bne rfl), World.ownsRow_nil _ _ _ _, (fun j e => by cases e), (fun i ch hi => by cases hi), ⟨fun f x hf => ?_, fun f g x y j hf hg hj hj' => ?_⟩⟩
    · obtain ⟨i, p, hp, hi, rfl, hfi, rfl⟩ := hback f x hf
      obtain ⟨a1, a2, a3, a4⟩ := hφ i p hp
      obtain ⟨_, q2, q3, q4⟩ := at_good hP hD (List.mem_of_getElem? hp)
      show Fl w' _ (match (List.range (P.cdir di).length).find? (fun j => decide ((φ j).1 = (φ i).1)) with | some i => (φ i).2 | none => .slice none 0 0) _ ∧ Own w' 0 (match (List.range (P.cdir di).length).find? (fun j => decide ((φ j).1 = (φ i).1)) with | some i => (φ i).2 | none => .slice none 0 0) _ ∧ Byt _ ∧ _ ∧ _ ∧ _ ∧ ∀ j, (match (List.range (P.cdir di).length).find? (fun j => decide ((φ j).1 = (φ i).1)) with | some i => (φ i).2 | none => .slice none 0 0).ownBlock = some j → _
      rw [hfi]
      exact ⟨a3, Go.Joins.ownsRow_le a4 (Nat.zero_le _), leftOf_byt q2, Nat.le_refl _, Nat.le_trans (leftOf_len _ _ _) q4, a2, fun j hj => (World.ownsRow.lt a4 j hj).1⟩
    · obtain ⟨i, p, hp, hi, rfl, hfi, rfl⟩ := hback f x hf
      obtain ⟨i', p', hp', hi', rfl, hfi', rfl⟩ := hback g y hg
      have hj1 : (match (List.range (P.cdir di).length).find? (fun j => decide ((φ j).1 = (φ i).1)) with | some i => (φ i).2 | none => .slice none 0 0).ownBlock = some j := hj
      have hj2 : (match (List.range (P.cdir di).length).find? (fun j => decide ((φ j).1 = (φ i').1)) with | some i => (φ i).2 | none => .slice none 0 0).ownBlock = some j := hj'
      rw [hfi] at hj1
      rw [hfi'] at hj2
      by_cases e : i = i'
      · rw [e]
      · exact absurd hj2 ((hinj i i' hi hi' e).2 j hj1)
  · refine ⟨by show (0 : Int) ≤ 0; omega, by show (0 : Int) ≤ 65536; omega, by show ((0 : Nat) : Int) ≤ 0; omega, .inr hm, .inr hm, hL64, hL64, rfl, fun k hk => ?_⟩
    have : k = 0 := by simpa using hk
    subst this
    show Fine (dn L) _
    rw [dn_id hm]
    intro s hs
    rw [hhas] at hs
    obtain ⟨a, ha⟩ := Option.isSome_iff_exists.1 hs
    obtain ⟨i, hi⟩ := look_idx hD.txt ha
    have hil := (List.getElem?_eq_some_iff.1 hi).1
    obtain ⟨t, et, hn⟩ := (hD.all _ (List.mem_of_getElem? hi)).1
    refine ⟨(φ i).1, (leftOf ke te (P.at a), (leftOf ke te (P.at a)).length), (hφ i _ hi).1, ?_, ?_⟩
    · refine (hforth i hil).trans ?_
      show ((P.cdir di).map fun p => (leftOf ke te (P.at p.2), (leftOf ke te (P.at p.2)).length))[i]? = _
      rw [List.getElem?_map, hi]
      rfl
    · rw [kl_inj et]
      exact hn
  · refine ⟨rfl, rfl, fun k hk => ?_, fun i x hx => ?_, fun i j hi hj => hinj2 i j (by rw [← hcl2]; exact hi) (by rw [← hcl2]; exact hj), fun k hk p hp => ?_⟩
    · have : k = 0 := by simpa [crashed] using hk
      subst this
      show dn L = mp _ (renum (P.cdir di))
      rw [dn_id hm]
      exact hLeq
    · obtain ⟨p, hp, hi, rfl⟩ := hfil i x hx
      show (((List.range (P.cdir di).length).find? (fun j => decide ((φ j).1 = (φ i).1))).bind fun i => (crashed P ke di te).fil[i]?) = _
      rw [hforth i hi]
      exact hx
    · have : k = 0 := by simpa [crashed] using hk
      subst this
      rw [hcl2]
      exact (hre.all p hp).2
end
end Go.Proofs.Ytolaagbdnchhiaa.Land
