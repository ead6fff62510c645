/-
  A file is made.
-/
import Derived.Test.YtolaagbdnchhiaaDisk3
set_option linter.unusedVariables false
set_option linter.unusedSimpArgs false
namespace Go.Proofs.Ytolaagbdnchhiaa
open Go.RowKit Go.Maps

/-- A directory that is there, for one that is nil. -/
def dn : DataW Value → DataW Value
  | .nil => .map []
  | D => D

theorem own_size {w : World} {b n : Nat} {D : DataW Value} (h : w.ownsMap Try.prog 9 RV b n D) : w.ownsMap Try.prog 9 RV b (Maps.size D) D := by
  obtain ⟨es, clock, hb, F, hs, rfl⟩ := h
  exact ⟨es, clock, hb, F, by simp [Maps.size, length_sorted], rfl⟩

theorem own_not_cells {w : World} {b n j : Nat} {D : DataW Value} {cur : Array Value} {t : TypeId} {fr : Nat × Nat} (h : w.ownsMap Try.prog 9 RV b n D) (hc : w.heap[j]? = some (.cells cur t fr)) : j ≠ b := by
  obtain ⟨es, clock, hb, _⟩ := h
  rintro rfl
  rw [hc] at hb
  cases hb

theorem own_dn {w : World} {b n : Nat} {D : DataW Value} (h : w.ownsMap Try.prog 9 RV b n D) : dn D = D := by
  obtain ⟨es, clock, hb, F, hs, rfl⟩ := h
  rfl

theorem change_any {w : World} {d B k g : Nat} {mb : Option Nat} {syn sv : Value} {ops cutAt : Int} {cuts gone : Bool} {D D' : DataW Value} {cb : Array Value} {cs : List Value}
    (h : Dk w d (.map mb) syn sv ops cutAt cuts gone) (hd : Dir w mb D) (hrow : w.ownsRow B 83 1 sv k cs) (hB : B ≤ w.heap.size) (hk : k < 1000000)
    (eg : ∀ args w, (callFunc g args).run Try.prog w = .ok (.enter g args) w)
    (hcall : ∀ (W : World) (b : Nat), W.ownsMap Try.prog 9 RV b (Maps.size D) (dn D) → (mb = some b ∨ w.heap.size ≤ b) → Fr (fun j => j = d) w W → Calls Try.prog g (#[.map (some b)] ++ cb) W fun e w' => e = .returned (.tuple #[]) ∧ w'.ownsMap Try.prog 9 RV b (Maps.size D + 1) D' ∧ W.grownBy w' (some b)) :
    Calls Try.prog 44 #[.pointer (some ⟨d, 0, none⟩), .func (.func g) #[] cb] w fun e w' => e = .returned (.tuple #[]) ∧
      ∃ b sv', (mb = some b ∨ mb = none ∧ w.heap.size ≤ b) ∧ Dk w' d (.map (some b)) syn sv' ops cutAt cuts gone ∧ w'.ownsMap Try.prog 9 RV b (Maps.size D + 1) D' ∧ w'.ownsRow B 83 1 sv' (k + 1) (cs ++ [.func (.func g) #[] cb]) ∧
        (sv'.ownBlock = sv.ownBlock ∨ ∃ j, sv'.ownBlock = some j ∧ w.heap.size ≤ j) ∧ Fr (fun j => j = d ∨ mb = some j ∨ sv.ownBlock = some j) w w' := by
  rcases hd with ⟨rfl, rfl⟩ | ⟨b, n, rfl, ho⟩
  · refine (change_nil h hrow hB hk eg (fun W hW hF => hcall W _ hW (.inr (Nat.le_refl _)) hF)).mono ?_
    rintro e w' ⟨rfl, sv', a1, a2, a3, a4, a5⟩
    refine ⟨rfl, _, sv', .inr ⟨rfl, Nat.le_refl _⟩, a1, a2, a3, ?_, a5.mono fun j _ e => ?_⟩
    · rcases a4 with e | ⟨j, e, h⟩
      · exact .inl e
      · exact .inr ⟨j, e, by omega⟩
    · rcases e with e | e
      · exact .inl e
      · exact .inr (.inr e)
  · have hdb := own_not_cells ho h
    have hsb : sv.ownBlock ≠ some b := fun e => by
      obtain ⟨cur, hh, _⟩ := row_block hrow e
      exact own_not_cells ho hh rfl
    have hds := own_dn ho
    refine (change_map h hrow hB hk hdb hsb eg (hcall w b (by rw [hds]; exact own_size ho) (.inl rfl) (Fr.refl _ _))).mono ?_
    rintro e w' ⟨rfl, sv', a1, a2, a3, a4, a5⟩
    refine ⟨rfl, _, sv', .inl rfl, a1, a2, a3, a4, a5.mono fun j _ e => ?_⟩
    rcases e with e | e | e
    · exact .inl e
    · exact .inr (.inl (by rw [e]))
    · exact .inr (.inr e)

/-- A file's cells. -/
def Fl (w : World) (f : Nat) (v : Value) (synced : Nat) : Prop := w.heap[f]? = some (.cells #[v, .int .i64 (synced : Int)] 81 (0, 0))
/-- A box that holds one thing. -/
def Box (w : World) (b : Nat) (v : Value) (t : TypeId) : Prop := w.heap[b]? = some (.cells #[v] t (0, 0))

theorem Box.cell {w : World} {b : Nat} {v : Value} {t : TypeId} (h : Box w b v t) : w.cell? ⟨b, 0, none⟩ = some v := by
  rw [Go.Joins.cell_of_block h]; rfl
theorem Box.free {w : World} {b : Nat} {v : Value} {t : TypeId} (h : Box w b v t) : w.frozen? ⟨b, 0, none⟩ = false := Go.Joins.unfrozen_of_block h 0
theorem Box.lt {w : World} {b : Nat} {v : Value} {t : TypeId} (h : Box w b v t) : b < w.heap.size := (Array.getElem?_eq_some_iff.1 h).1
theorem Box.set {w : World} {b : Nat} {v : Value} {t : TypeId} (h : Box w b v t) (u : Value) : Box (w.setCell ⟨b, 0, none⟩ u) b u t := by
  unfold Box at *
  rw [Go.Joins.block_setCell h]; rfl

theorem alloc3 (w : World) (o1 o2 o3 : Obj) : (((w.alloc o1).alloc o2).alloc o3).heap[w.heap.size]? = some o1 ∧ (((w.alloc o1).alloc o2).alloc o3).heap[w.heap.size + 1]? = some o2 ∧ (((w.alloc o1).alloc o2).alloc o3).heap[w.heap.size + 2]? = some o3 ∧
    (((w.alloc o1).alloc o2).alloc o3).heap.size = w.heap.size + 3 := by
  have e1 : (w.alloc o1).heap.size = w.heap.size + 1 := by simp
  have e2 : ((w.alloc o1).alloc o2).heap.size = w.heap.size + 2 := by simp
  refine ⟨?_, ?_, ?_, by simp⟩
  · exact (Below.heap_alloc _ _ _ (by omega)).trans ((Below.heap_alloc _ _ _ (by omega)).trans (heap_alloc_new w o1))
  · refine (Below.heap_alloc _ _ _ (by omega)).trans ?_
    rw [← e1]
    exact heap_alloc_new (w.alloc o1) o2
  · rw [← e2]
    exact heap_alloc_new ((w.alloc o1).alloc o2) o3

theorem row_same {w w' : World} {B : Nat} {e : TypeId} {v : Value} {k : Nat} {cs : List Value} (h : w.ownsRow B e 1 v k cs) (hs : ∀ j, v.ownBlock = some j → w'.heap[j]? = w.heap[j]?) : w'.ownsRow B e 1 v k cs := by
  refine ⟨h.1, ?_⟩
  rcases h.2 with hn | ⟨g, cap, cur, rfl, hb, hgg, rest⟩
  · exact .inl hn
  · exact .inr ⟨g, cap, cur, rfl, hb, (hs g rfl).trans hgg, rest⟩
theorem Fl.cells {w : World} {f : Nat} {v : Value} {n : Nat} (h : Fl w f v n) : w.cell? ⟨f, 0, none⟩ = some v ∧ w.cell? ⟨f, 1, none⟩ = some (.int .i64 (n : Int)) := by
  constructor <;> (rw [Go.Joins.cell_of_block h]; rfl)
theorem Fl.free {w : World} {f : Nat} {v : Value} {n : Nat} (h : Fl w f v n) (i : Nat) : w.frozen? ⟨f, i, none⟩ = false := Go.Joins.unfrozen_of_block h i
theorem Fl.lt {w : World} {f : Nat} {v : Value} {n : Nat} (h : Fl w f v n) : f < w.heap.size := (Array.getElem?_eq_some_iff.1 h).1
theorem Fl.set0 {w : World} {f : Nat} {v : Value} {n : Nat} (h : Fl w f v n) (u : Value) : Fl (w.setCell ⟨f, 0, none⟩ u) f u n := by
  unfold Fl at *
  rw [Go.Joins.block_setCell h]; rfl
theorem Fl.set1 {w : World} {f : Nat} {v : Value} {n : Nat} (h : Fl w f v n) (m : Nat) : Fl (w.setCell ⟨f, 1, none⟩ (.int .i64 (m : Int))) f v m := by
  unfold Fl at *
  rw [Go.Joins.block_setCell h]; rfl
theorem Dk.ne_row {w : World} {d j B : Nat} {e : TypeId} {now syn since v : Value} {ops cutAt : Int} {cuts gone : Bool} {k : Nat} {cs : List Value} (h : Dk w d now syn since ops cutAt cuts gone) (hr : w.ownsRow B e 1 v k cs) (he : e ≠ 61) (hj : v.ownBlock = some j) : j ≠ d := by
  obtain ⟨cur, hh, _⟩ := row_block hr hj
  rintro rfl
  unfold Dk at h
  rw [h] at hh
  simp at hh
  exact he hh.2.symm

def mkCl (f n : Nat) : Value := .func (.func 65) #[] #[.pointer (some ⟨f, 0, none⟩), .pointer (some ⟨n, 0, none⟩)]

theorem enter_made : ∀ args w, (callFunc 65 args).run Try.prog w = .ok (.enter 65 args) w := enters_of Try.func65 (by kernel_rfl) rfl

set_option maxHeartbeats 4000000 in
set_option maxRecDepth 100000 in
theorem create_any {w : World} {d B k : Nat} {mb : Option Nat} {syn sv : Value} {ops cutAt : Int} {cuts gone : Bool} {D : DataW Value} {cs : List Value}
    (h : Dk w d (.map mb) syn sv ops cutAt cuts gone) (hd : Dir w mb D) (hrow : w.ownsRow B 83 1 sv k cs) (hB : B ≤ w.heap.size) (hk : k < 1000000) (hD : Maps.size D < 1000000)
    (s : ByteArray) (hs1 : 1 ≤ s.size) (hs2 : s.size ≤ 1000000) :
    Calls Try.prog 49 #[.pointer (some ⟨d, 0, none⟩), .string s] w fun e w' =>
      ∃ f nb fb b sv', e = .returned (.pointer (some ⟨f, 0, none⟩)) ∧ w.heap.size ≤ f ∧ w.heap.size ≤ nb ∧ w.heap.size ≤ fb ∧ Fl w' f (.slice none 0 0) 0 ∧ Box w' nb (.string s) 9 ∧ Box w' fb (.pointer (some ⟨f, 0, none⟩)) 77 ∧
        (mb = some b ∨ mb = none ∧ w.heap.size ≤ b) ∧ Dk w' d (.map (some b)) syn sv' ops cutAt cuts gone ∧ w'.ownsMap Try.prog 9 RV b (Maps.size D + 1) ((dn D).put (.string s.data.toList) (.held (.pointer (some ⟨f, 0, none⟩)))) ∧
        w'.ownsRow B 83 1 sv' (k + 1) (cs ++ [mkCl fb nb]) ∧ (sv'.ownBlock = sv.ownBlock ∨ ∃ j, sv'.ownBlock = some j ∧ w.heap.size ≤ j) ∧ Fr (fun j => j = d ∨ mb = some j ∨ sv.ownBlock = some j) w w' := by
  have hlt := h.lt
  go_enter Try.func49, Try.ntmps49
  go_wp2_with fail
  refine (clone_any s _ hs1 (by omega)).mono ?_
  rintro e w1 ⟨rfl, hb1⟩
  obtain ⟨q1, q2, q3, q4⟩ := alloc3 w (.cells #[.string s] 9) (.cells #[.slice none 0 0, .int .i64 0] 81) (.cells #[.pointer (some ⟨w.heap.size + 1, 0, none⟩)] 77)
  have G0 : Fr (fun j => j = d ∨ mb = some j ∨ sv.ownBlock = some j) w (((w.alloc (.cells #[.string s] 9)).alloc (.cells #[.slice none 0 0, .int .i64 0] 81)).alloc (.cells #[.pointer (some ⟨w.heap.size + 1, 0, none⟩)] 77)) := (((Fr.refl _ w).alloc _).alloc _).alloc _
  have r0 := ((hrow.alloc (.cells #[.string s] 9)).alloc (.cells #[.slice none 0 0, .int .i64 0] 81)).alloc (.cells #[.pointer (some ⟨w.heap.size + 1, 0, none⟩)] 77)
  have B0 : Below w.heap.size w (((w.alloc (.cells #[.string s] 9)).alloc (.cells #[.slice none 0 0, .int .i64 0] 81)).alloc (.cells #[.pointer (some ⟨w.heap.size + 1, 0, none⟩)] 77)) := (((Below.refl _ _).alloc (Nat.le_refl _) _).alloc (by simp) _).alloc (by simp; omega) _
  generalize (((w.alloc (.cells #[.string s] 9)).alloc (.cells #[.slice none 0 0, .int .i64 0] 81)).alloc (.cells #[.pointer (some ⟨w.heap.size + 1, 0, none⟩)] 77)) = W0 at q1 q2 q3 q4 G0 B0 r0 hb1
  have hs1' := hb1.size
  have n1 : Box w1 w.heap.size (.string s) 9 := (hb1.block _ (by omega)).trans q1
  have f1 : Fl w1 (w.heap.size + 1) (.slice none 0 0) 0 := (hb1.block _ (by omega)).trans q2
  have p1 : Box w1 (w.heap.size + 2) (.pointer (some ⟨w.heap.size + 1, 0, none⟩)) 77 := (hb1.block _ (by omega)).trans q3
  have G1 : Fr (fun j => j = d ∨ mb = some j ∨ sv.ownBlock = some j) w w1 := G0.trans (G := fun _ => False) (Fr.below hb1) (fun _ e => e.elim)
  have B1 : Below w.heap.size w w1 := B0.trans (hb1.mono (by omega))
  have hjr : ∀ j, sv.ownBlock = some j → j < w.heap.size := fun j e => by
    obtain ⟨_, _, _, hl⟩ := row_block hrow e
    exact hl
  have hjm : ∀ j, mb = some j → j < w.heap.size := fun j e => by
    rcases hd with ⟨rfl, _⟩ | ⟨b, n, rfl, ho⟩
    · cases e
    · cases e; exact ho.lt
  have c1 := n1.cell
  have z1 := n1.free
  -- the world ahead of the change
  have n2 := n1.set (.string s)
  have ho2 : ∀ j, j ≠ w.heap.size → (w1.setCell ⟨w.heap.size, 0, none⟩ (.string s)).heap[j]? = w1.heap[j]? := fun j hj => Below.heap_setCell _ _ _ _ (by simpa using hj)
  have f2 : Fl (w1.setCell ⟨w.heap.size, 0, none⟩ (.string s)) (w.heap.size + 1) (.slice none 0 0) 0 := (ho2 _ (by omega)).trans f1
  have p2 : Box (w1.setCell ⟨w.heap.size, 0, none⟩ (.string s)) (w.heap.size + 2) (.pointer (some ⟨w.heap.size + 1, 0, none⟩)) 77 := (ho2 _ (by omega)).trans p1
  have G2 : Fr (fun j => j = d ∨ mb = some j ∨ sv.ownBlock = some j) w (w1.setCell ⟨w.heap.size, 0, none⟩ (.string s)) := G1.setCell (.inr (Nat.le_refl _)) _
  have B2 : Below w.heap.size w (w1.setCell ⟨w.heap.size, 0, none⟩ (.string s)) := B1.setCell (Nat.le_refl _) _
  have h2 : Dk (w1.setCell ⟨w.heap.size, 0, none⟩ (.string s)) d (.map mb) syn sv ops cutAt cuts gone := h.same (B2.block d hlt)
  have d2 : Dir (w1.setCell ⟨w.heap.size, 0, none⟩ (.string s)) mb D := Dir.same hd fun j e => B2.block j (hjm j e)
  have r2 : (w1.setCell ⟨w.heap.size, 0, none⟩ (.string s)).ownsRow B 83 1 sv k cs := row_same hrow fun j e => B2.block j (hjr j e)
  have s2 : (w1.setCell ⟨w.heap.size, 0, none⟩ (.string s)).heap.size = w1.heap.size := by simp [World.setCell]
  obtain ⟨W, hW⟩ : ∃ W, W = w1.setCell ⟨w.heap.size, 0, none⟩ (.string s) := ⟨_, rfl⟩
  rw [← hW] at n2 f2 p2 G2 B2 h2 d2 r2 s2
  have hch := change_any h2 d2 r2 (by omega) hk enter_made (D' := (dn D).put (.string s.data.toList) (.held (.pointer (some ⟨w.heap.size + 1, 0, none⟩)))) (cb := #[.pointer (some ⟨w.heap.size + 2, 0, none⟩), .pointer (some ⟨w.heap.size, 0, none⟩)]) (fun V b ho hb hF => by
    refine made_any ho (by unfold maxLen; omega) _ _ s _ (by unfold maxLen; omega) ?_ ?_
    · exact (hF.cell (p := ⟨w.heap.size + 2, 0, none⟩) p2.lt (by simp; omega)).trans p2.cell
    · exact (hF.cell (p := ⟨w.heap.size, 0, none⟩) n2.lt (by simp; omega)).trans n2.cell)
  have HW := hide2 hW
  clear hW hb1 q1 q2 q3 q4 r0 G0 B0 f1 p1 ho2 d2 r2
  go_wp2_with fail
  rw [← HW.out]
  refine hch.mono ?_
  rintro e w3 ⟨rfl, b, sv', hb, h3, o3, r3, v3, F3⟩
  have hnd : ∀ j, w.heap.size ≤ j → j < W.heap.size → w3.heap[j]? = W.heap[j]? := fun j hj hl => F3.block j hl (by
    rintro (rfl | e | e)
    · omega
    · have := hjm j e; omega
    · have := hjr j e; omega)
  have n3 : Box w3 w.heap.size (.string s) 9 := (hnd _ (by omega) n2.lt).trans n2
  have f3 : Fl w3 (w.heap.size + 1) (.slice none 0 0) 0 := (hnd _ (by omega) f2.lt).trans f2
  have p3 : Box w3 (w.heap.size + 2) (.pointer (some ⟨w.heap.size + 1, 0, none⟩)) 77 := (hnd _ (by omega) p2.lt).trans p2
  have cp := p3.cell
  have Fz : Fr (fun j => j = d ∨ mb = some j ∨ sv.ownBlock = some j) w w3 := G2.trans F3 (fun j e => .inl e)
  clear hch HW hnd c1 z1
  go_wp2
  go_ret
  refine ⟨_, _, _, b, sv', rfl, by omega, Nat.le_refl _, by omega, f3, n3, p3, ?_, h3, o3, r3, ?_, Fz⟩
  · rcases hb with e | ⟨e, hl⟩
    · exact .inl e
    · exact .inr ⟨e, by have := B2.size; omega⟩
  · rcases v3 with e | ⟨j, e, hl⟩
    · exact .inl e
    · exact .inr ⟨j, e, by have := B2.size; omega⟩
end Go.Proofs.Ytolaagbdnchhiaa
