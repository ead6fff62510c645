/-
  Both disks beside one another: each operation of each.
-/
import Derived.Test.YtolaagbdnchhiaaDJ1
set_option linter.unusedVariables false
set_option linter.unusedSimpArgs false
namespace Go.Proofs.Ytolaagbdnchhiaa
open Go.RowKit Go.Maps

/-- What a call answers, and leaves: with power, or without. -/
def ans (n : Int) (c : Int) (o : Bool) (F : Int × PD) : Int := if offed n c o = true then 24 else F.1
def lef (P : PD) (c : Int) (o : Bool) (F : Int × PD) : PD := if offed P.n c o = true then P else F.2
theorem lef_inv {P : PD} {c : Int} {o : Bool} {F : Int × PD} (hp : P.inv) (hF : F.2.inv) : (lef P c o F).inv := by
  unfold lef
  split
  · exact hp
  · exact hF

section
variable {w w' : World} {E : Nat → Prop} {d r : Nat} {P Q : PD} {c c' : Int} {o o' : Bool}

theorem jp_sync (h : Jg w E d r P c o Q c' o') (s : ByteArray) (hs : s.size ≤ maxLen) :
    Calls Try.prog 19 #[.pointer (some ⟨d, 0, none⟩), .string s] w fun e w' => ∃ v, e = .returned v ∧ v = .int .i64 (ans P.n c o (P.sync s)) ∧ Jg w' E d r (lef P c o (P.sync s)) c (offed P.n c o) Q c' o' ∧ Fr (fun j => ¬ E j) w w' :=
  h.prog (A := fun v _ => v = .int .i64 (ans P.n c o (P.sync s))) (lef_inv h.pi (inv_sync h.pi s)) fun K ca hD hca hE => prog_any hD hca (fun hon L hL _ hK => Land.dr_sync hL hon hK s hs) (fun hoff now syn since hk => sync_off hk hoff s)
theorem jp_delete (h : Jg w E d r P c o Q c' o') (s : ByteArray) (hs : s.size ≤ maxLen) :
    Calls Try.prog 17 #[.pointer (some ⟨d, 0, none⟩), .string s] w fun e w' => ∃ v, e = .returned v ∧ v = .int .i64 (ans P.n c o (P.del s)) ∧ Jg w' E d r (lef P c o (P.del s)) c (offed P.n c o) Q c' o' ∧ Fr (fun j => ¬ E j) w w' :=
  h.prog (A := fun v _ => v = .int .i64 (ans P.n c o (P.del s))) (lef_inv h.pi (inv_del h.pi s)) fun K ca hD hca hE => prog_any hD hca (fun hon L hL _ hK => Land.dr_delete hL hon hK s hs) (fun hoff now syn since hk => delete_off hk hoff s)
theorem jp_rename (h : Jg w E d r P c o Q c' o') (s t : ByteArray) (hs : s.size ≤ maxLen) (ht : t.size ≤ maxLen) :
    Calls Try.prog 32 #[.pointer (some ⟨d, 0, none⟩), .string s, .string t] w fun e w' => ∃ v, e = .returned v ∧ v = .int .i64 (ans P.n c o (P.ren s t)) ∧ Jg w' E d r (lef P c o (P.ren s t)) c (offed P.n c o) Q c' o' ∧ Fr (fun j => ¬ E j) w w' :=
  h.prog (A := fun v _ => v = .int .i64 (ans P.n c o (P.ren s t))) (lef_inv h.pi (inv_ren h.pi s t)) fun K ca hD hca hE => prog_any hD hca (fun hon L hL _ hK => Land.dr_rename hL hon hK s t hs ht) (fun hoff now syn since hk => rename_off hk hoff s t)
theorem jp_syncDir (h : Jg w E d r P c o Q c' o') :
    Calls Try.prog 20 #[.pointer (some ⟨d, 0, none⟩)] w fun e w' => ∃ v, e = .returned v ∧ v = .int .i64 (ans P.n c o P.syncDir) ∧ Jg w' E d r (lef P c o P.syncDir) c (offed P.n c o) Q c' o' ∧ Fr (fun j => ¬ E j) w w' :=
  h.prog (A := fun v _ => v = .int .i64 (ans P.n c o P.syncDir)) (lef_inv h.pi (inv_syncDir h.pi)) fun K ca hD hca hE => prog_any hD hca (fun hon L hL _ hK => Land.dr_syncDir hL hon hK) (fun hoff now syn since hk => syncDir_off hk hoff)
theorem jp_append (h : Jg w E d r P c o Q c' o') (s : ByteArray) (hs : s.size ≤ maxLen) (ao : Option Addr) (len cap : Nat) (xs : List Int) (hx : Sl w ao len cap xs) (hxa : 0 < len → ∀ b off, ao = some ⟨b, off, none⟩ → E b) :
    Calls Try.prog 18 #[.pointer (some ⟨d, 0, none⟩), .string s, .slice ao len cap] w fun e w' => ∃ v, e = .returned v ∧ v = .int .i64 (ans P.n c o (P.app s xs)) ∧ Jg w' E d r (lef P c o (P.app s xs)) c (offed P.n c o) Q c' o' ∧ Fr (fun j => ¬ E j) w w' := by
  obtain ⟨⟨K0, κ0, ca0, g1, g2, g3, g4, g5⟩, hp, hq⟩ := id h
  exact h.prog (A := fun v _ => v = .int .i64 (ans P.n c o (P.app s xs))) (lef_inv h.pi (inv_app h.pi s hx.2.2.2.1)) fun K ca hD hca hE => prog_any hD hca (fun hon L hL hLK hK => Land.dr_append hL hon hK s hs ao len cap xs hx fun hl b off e => by
    have hb := hxa hl b off e
    refine ⟨fun k => (hE b hb).1 (hLK b (g5 b hb).2 k), (hE b hb).2⟩) (fun hoff now syn since hk => append_off hk hoff s _)
theorem jp_cutAt (h : Jg w E d r P c o Q c' o') (n : Int) :
    Calls Try.prog 27 #[.pointer (some ⟨d, 0, none⟩), .int .i64 n] w fun e w' => ∃ v, e = .returned v ∧ v = .tuple #[] ∧ Jg w' E d r P n false Q c' o' ∧ Fr (fun j => ¬ E j) w w' := by
  refine h.prog (A := fun v _ => v = .tuple #[]) h.pi fun K ca hD hca hE => (Land.dr_power hD (v := .tuple #[]) (c := n) (k := decide (0 ≤ n)) (g := false) fun now syn since hk => cutAt_any hk n).mono ?_
  rintro e w' ⟨rfl, hD, hF⟩
  exact ⟨_, rfl, rfl, ⟨n, fun _ => rfl, hD.mono fun j _ k => .inl k⟩, hF⟩
theorem jp_poke (h : Jg w E d r P c o Q c' o') (s : ByteArray) (hs : s.size ≤ maxLen) (k b : Int) (hb : 0 ≤ b ∧ b ≤ 255) :
    Calls Try.prog 37 #[.pointer (some ⟨d, 0, none⟩), .string s, .int .i64 k, .int .u8 b] w fun e w' => ∃ v, e = .returned v ∧ v = .int .i64 (Land.ppoke P s k b).1 ∧ Jg w' E d r (Land.ppoke P s k b).2 c o Q c' o' ∧ Fr (fun j => ¬ E j) w w' := by
  refine h.prog (A := fun v _ => v = .int .i64 (Land.ppoke P s k b).1) (Land.inv_poke h.pi s k b hb) fun K ca hD hca hE => (Land.dr_poke hD h.pi s hs k b hb).mono ?_
  rintro e w' ⟨rfl, hD, hF⟩
  exact ⟨_, rfl, rfl, ⟨ca, hca, hD.mono fun j _ k => .inl k⟩, hF.mono fun j _ k => .inr k⟩
theorem jp_read (h : Jg w E d r P c o Q c' o') (s : ByteArray) (hs : s.size ≤ maxLen) :
    Calls Try.prog 22 #[.pointer (some ⟨d, 0, none⟩), .string s] w fun e w' => ∃ v, e = .returned v ∧ (∃ u, v = .tuple #[u, .int .i64 (if o then 24 else (Land.pread P s).1)] ∧ Own w' w.heap.size u (if o then [] else (Land.pread P s).2)) ∧ Below w.heap.size w w' := by
  obtain ⟨⟨K, κ, ca, h1, h2, h3, h4, h5⟩, hp, hq⟩ := h
  refine (Land.dr_read h1 hp s hs).mono ?_
  rintro e w' ⟨v, rfl, ho, hB⟩
  exact ⟨_, rfl, ⟨v, rfl, ho⟩, hB⟩

theorem jr_sync (h : Jg w E d r P c o Q c' o') (s : ByteArray) (hs : s.size ≤ maxLen) :
    Calls Try.prog 31 #[.pointer (some ⟨r, 0, none⟩), .string s] w fun e w' => ∃ v, e = .returned v ∧ v = .int .i64 (ans Q.n c' o' (Q.sync s)) ∧ Jg w' E d r P c o (lef Q c' o' (Q.sync s)) c' (offed Q.n c' o') ∧ Fr (fun j => ¬ E j) w w' :=
  h.ref (A := fun v _ => v = .int .i64 (ans Q.n c' o' (Q.sync s))) (lef_inv h.qi (inv_sync h.qi s)) fun κ hR hE => (ref_sync hR h.qi s hs).mono (by rintro e w' ⟨rfl, q⟩; exact ⟨_, rfl, rfl, q⟩)
theorem jr_delete (h : Jg w E d r P c o Q c' o') (s : ByteArray) (hs : s.size ≤ maxLen) :
    Calls Try.prog 34 #[.pointer (some ⟨r, 0, none⟩), .string s] w fun e w' => ∃ v, e = .returned v ∧ v = .int .i64 (ans Q.n c' o' (Q.del s)) ∧ Jg w' E d r P c o (lef Q c' o' (Q.del s)) c' (offed Q.n c' o') ∧ Fr (fun j => ¬ E j) w w' :=
  h.ref (A := fun v _ => v = .int .i64 (ans Q.n c' o' (Q.del s))) (lef_inv h.qi (inv_del h.qi s)) fun κ hR hE => (ref_delete hR h.qi s hs).mono (by rintro e w' ⟨rfl, q⟩; exact ⟨_, rfl, rfl, q⟩)
theorem jr_rename (h : Jg w E d r P c o Q c' o') (s t : ByteArray) (hs : s.size ≤ maxLen) (ht : t.size ≤ maxLen) :
    Calls Try.prog 33 #[.pointer (some ⟨r, 0, none⟩), .string s, .string t] w fun e w' => ∃ v, e = .returned v ∧ v = .int .i64 (ans Q.n c' o' (Q.ren s t)) ∧ Jg w' E d r P c o (lef Q c' o' (Q.ren s t)) c' (offed Q.n c' o') ∧ Fr (fun j => ¬ E j) w w' :=
  h.ref (A := fun v _ => v = .int .i64 (ans Q.n c' o' (Q.ren s t))) (lef_inv h.qi (inv_ren h.qi s t)) fun κ hR hE => (ref_rename hR h.qi s t hs ht).mono (by rintro e w' ⟨rfl, q⟩; exact ⟨_, rfl, rfl, q⟩)
theorem jr_syncDir (h : Jg w E d r P c o Q c' o') :
    Calls Try.prog 35 #[.pointer (some ⟨r, 0, none⟩)] w fun e w' => ∃ v, e = .returned v ∧ v = .int .i64 (ans Q.n c' o' Q.syncDir) ∧ Jg w' E d r P c o (lef Q c' o' Q.syncDir) c' (offed Q.n c' o') ∧ Fr (fun j => ¬ E j) w w' :=
  h.ref (A := fun v _ => v = .int .i64 (ans Q.n c' o' Q.syncDir)) (lef_inv h.qi (inv_syncDir h.qi)) fun κ hR hE => (ref_syncDir hR h.qi).mono (by rintro e w' ⟨rfl, q⟩; exact ⟨_, rfl, rfl, q⟩)
theorem jr_append (h : Jg w E d r P c o Q c' o') (s : ByteArray) (hs : s.size ≤ maxLen) (ao : Option Addr) (len cap : Nat) (xs : List Int) (hx : Sl w ao len cap xs) (hxa : 0 < len → ∀ b off, ao = some ⟨b, off, none⟩ → E b) :
    Calls Try.prog 29 #[.pointer (some ⟨r, 0, none⟩), .string s, .slice ao len cap] w fun e w' => ∃ v, e = .returned v ∧ v = .int .i64 (ans Q.n c' o' (Q.app s xs)) ∧ Jg w' E d r P c o (lef Q c' o' (Q.app s xs)) c' (offed Q.n c' o') ∧ Fr (fun j => ¬ E j) w w' :=
  h.ref (A := fun v _ => v = .int .i64 (ans Q.n c' o' (Q.app s xs))) (lef_inv h.qi (inv_app h.qi s hx.2.2.2.1)) fun κ hR hE => (ref_append hR h.qi s hs ao len cap xs hx fun hl b off e => hE b (hxa hl b off e)).mono (by rintro e w' ⟨rfl, q⟩; exact ⟨_, rfl, rfl, q⟩)
theorem jr_poke (h : Jg w E d r P c o Q c' o') (s : ByteArray) (hs : s.size ≤ maxLen) (k b : Int) (hb : 0 ≤ b ∧ b ≤ 255) :
    Calls Try.prog 38 #[.pointer (some ⟨r, 0, none⟩), .string s, .int .i64 k, .int .u8 b] w fun e w' => ∃ v, e = .returned v ∧ v = .int .i64 (Land.ppoke Q s k b).1 ∧ Jg w' E d r P c o (Land.ppoke Q s k b).2 c' o' ∧ Fr (fun j => ¬ E j) w w' :=
  h.ref (A := fun v _ => v = .int .i64 (Land.ppoke Q s k b).1) (Land.inv_poke h.qi s k b hb) fun κ hR hE => (ref_poke hR h.qi s hs k b).mono (by rintro e w' ⟨rfl, q⟩; exact ⟨_, rfl, rfl, q⟩)
theorem jr_cutAt (h : Jg w E d r P c o Q c' o') (n : Int) :
    Calls Try.prog 36 #[.pointer (some ⟨r, 0, none⟩), .int .i64 n] w fun e w' => ∃ v, e = .returned v ∧ v = .tuple #[] ∧ Jg w' E d r P c o Q n false ∧ Fr (fun j => ¬ E j) w w' := by
  refine h.ref (A := fun v _ => v = .tuple #[]) h.qi fun κ hR hE => ?_
  obtain ⟨vF, vO, vL, vN, φ, β, hW⟩ := hR
  refine (ref_cutAt hW.rk n).mono ?_
  rintro e w' ⟨rfl, hk, hF⟩
  exact ⟨_, rfl, rfl, κ, ⟨vF, vO, vL, vN, φ, β, hW.blk hF hk⟩, fun _ _ => rfl, hF.mono fun j _ e => by rw [e, hW.kr]; exact Ro.noConfusion⟩
theorem jr_read (h : Jg w E d r P c o Q c' o') (s : ByteArray) (hs : s.size ≤ maxLen) :
    Calls Try.prog 30 #[.pointer (some ⟨r, 0, none⟩), .string s] w fun e w' => ∃ v, e = .returned v ∧ (∃ ao len cap, v = .tuple #[.slice ao len cap, .int .i64 (if o' then 24 else (Land.pread Q s).1)] ∧ Sl w ao len cap (if o' then [] else (Land.pread Q s).2)) ∧ w' = w := by
  obtain ⟨⟨K, κ, ca, h1, h2, h3, h4, h5⟩, hp, hq⟩ := h
  refine (ref_read h2 hq s hs).mono ?_
  rintro e w' ⟨⟨ao, len, cap, rfl, hsl⟩, rfl⟩
  exact ⟨_, rfl, ⟨ao, len, cap, by cases o' <;> rfl, by cases o' <;> exact hsl⟩, rfl⟩
end
end Go.Proofs.Ytolaagbdnchhiaa
