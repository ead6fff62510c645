/-
  Both disks beside one another: 'does', kind by kind.
-/
import Derived.Test.YtolaagbdnchhiaaDJ2
set_option linter.unusedVariables false
set_option linter.unusedSimpArgs false
namespace Go.Proofs.Ytolaagbdnchhiaa
open Go.RowKit Go.Maps

/-- A call of a script, as it is handed on. -/
def OpR.val (q : OpR) : Value := .agg #[.int .i64 q.kind, .string q.name, .string q.to, .slice q.bo q.bl q.bc, .int .i64 q.n, .int .i64 q.k1, .int .i64 q.k2, .int .i64 q.k3]
/-- The law's world: where both disks are. -/
def Wx (w : World) (x d r : Nat) : Prop := w.heap[x]? = some (.cells #[.pointer (some ⟨d, 0, none⟩), .pointer (some ⟨r, 0, none⟩)] 30 (0, 0))
theorem Wx.lt {w : World} {x d r : Nat} (h : Wx w x d r) : x < w.heap.size := (Array.getElem?_eq_some_iff.1 h).1
theorem Wx.cells {w : World} {x d r : Nat} (h : Wx w x d r) : w.cell? ⟨x, 0, none⟩ = some (.pointer (some ⟨d, 0, none⟩)) ∧ w.cell? ⟨x, 1, none⟩ = some (.pointer (some ⟨r, 0, none⟩)) := by
  unfold Wx at h
  refine ⟨?_, ?_⟩ <;> (rw [Go.Joins.cell_of_block h]; rfl)
/-- The call's own copy of what it was handed. -/
def Bx (w : World) (y : Nat) (q : OpR) : Prop := w.heap[y]? = some (.cells #[.int .i64 q.kind, .string q.name, .string q.to, .slice q.bo q.bl q.bc, .int .i64 q.n, .int .i64 q.k1, .int .i64 q.k2, .int .i64 q.k3] 36 (0, 0))
theorem Bx.cells {w : World} {y : Nat} {q : OpR} (h : Bx w y q) : w.cell? ⟨y, 0, none⟩ = some (.int .i64 q.kind) ∧ w.cell? ⟨y, 1, none⟩ = some (.string q.name) ∧ w.cell? ⟨y, 2, none⟩ = some (.string q.to) ∧ w.cell? ⟨y, 3, none⟩ = some (.slice q.bo q.bl q.bc) ∧
    w.cell? ⟨y, 4, none⟩ = some (.int .i64 q.n) ∧ w.cell? ⟨y, 5, none⟩ = some (.int .i64 q.k1) ∧ w.cell? ⟨y, 6, none⟩ = some (.int .i64 q.k2) ∧ w.cell? ⟨y, 7, none⟩ = some (.int .i64 q.k3) := by
  unfold Bx at h
  refine ⟨?_, ?_, ?_, ?_, ?_, ?_, ?_, ?_⟩ <;> (rw [Go.Joins.cell_of_block h]; rfl)

section
variable {w w' : World} {E : Nat → Prop} {x d r : Nat} {P : PD} {c : Int} {o : Bool}

/-- All that stands when the call has its copy. -/
structure Dy (w : World) (E : Nat → Prop) (x d r : Nat) (P : PD) (c : Int) (o : Bool) (Q : PD) (c' : Int) (o' : Bool) (y : Nat) (q : OpR) : Prop where
  jg : Jg w E d r P c o Q c' o'
  wx : Wx w x d r
  bx : Bx w y q
  ex : E x
  ey : E y
theorem Dy.next {Q : PD} {c' : Int} {o' : Bool} {y : Nat} {q : OpR} {P1 Q1 : PD} {c1 c2 : Int} {o1 o2 : Bool} (h : Dy w E x d r P c o Q c' o' y q) (hj : Jg w' E d r P1 c1 o1 Q1 c2 o2) (F : Fr (fun j => ¬ E j) w w') : Dy w' E x d r P1 c1 o1 Q1 c2 o2 y q :=
  ⟨hj, (F.block x h.wx.lt fun e => e h.ex).trans h.wx, (F.block y (Array.getElem?_eq_some_iff.1 h.bx).1 fun e => e h.ey).trans h.bx, h.ex, h.ey⟩
theorem Dy.start (h : Jg w E d r P c o P c o) (hx : Wx w x d r) (hE : E x) (q : OpR) :
    Dy (w.alloc (.cells #[.int .i64 q.kind, .string q.name, .string q.to, .slice q.bo q.bl q.bc, .int .i64 q.n, .int .i64 q.k1, .int .i64 q.k2, .int .i64 q.k3] 36)) (fun j => E j ∨ j = w.heap.size) x d r P c o P c o w.heap.size q :=
  ⟨h.keep ((Fr.refl E w).alloc _) (fun j e => e.imp id fun e => ⟨by omega, by simp; omega⟩), (Below.heap_alloc _ _ x hx.lt).trans hx, heap_alloc_new _ _, .inl hE, .inr rfl⟩

end
end Go.Proofs.Ytolaagbdnchhiaa
