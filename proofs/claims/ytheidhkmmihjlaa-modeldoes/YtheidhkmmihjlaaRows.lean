/-
  No cell of these rows narrows 'for every input' (looked for: loops, veiled, ifaces, maps, wideKeys, modest, calm, conditions, laid).
  DERIVED. THE GIVEN ROWS OF THIS SEAT. 4 by the template 'for every input the law returns true; each argument reads behind the call as it read before'; 0 by the template 'total and deterministic' (their statements: YtheidhkmmihjlaaTotals.lean).
  GIVEN WITH THE SEED: the statements are not yours to turn. If you find one false, say at which input.
  Laid BY PROGRAM, IN A SANDBOX (cutbox-rows.mjs): the forced cells as the released guide's own fill.sh prints them over the translation 1e657426a6027561… (all of the seat's roots in one cut). By AI agents, Wed Nov 11 2026. No macro, syntax, notation, axiom, sorry.
-/
import Derived.Test.YtheidhkmmihjlaaChecked
import GoSem.Claim
import GoSem.ClaimJoined
import GoSem.ClaimMapViews
import Derived.JoinedTies
import Derived.KernelRfl
namespace Go.Proofs.Ytheidhkmmihjlaa
/- THE CELL 'sum', in the pinned program and in every row, IS THE sha256 OF THE DUMP (.gsa) THAT YtheidhkmmihjlaaProg.lean LOADS. Nothing in Lean hashes anything: it is a label: what it is worth is what the hold of that sum in a sandbox is worth. -/
noncomputable def Try.pinned : Pinned := { name := "ytheidhkmmihjlaa", sum := "1e657426a602756180f1770afe59546d24244becaf163a25546a950ba586450a", checked := Try.checked }
namespace Rows
def none {H : Type} : Left H := { results := [], args := [] }

/-- 'varvelaw18.ModelDoes': WHATEVER THE INPUT: true; the input reads as it did. -/
def modelDoesSpec : ChangeSpec := { name := "modelDoes", fn := fun _ => fun
  | [d1, d2] => { results := [.lit (.bool true)], args := [d1, d2] }
  | _ => none }
def modelDoesRow : OpenClaim := { program := "ytheidhkmmihjlaa", sum := "1e657426a602756180f1770afe59546d24244becaf163a25546a950ba586450a", func := "varve/varvelaw18.ModelDoes", spec := "modelDoes", unfollowed := true, recurses := true, apart := false }
def ModelDoesSaid : Prop := modelDoesRow.holds Try.pinned (OpenSpec.ofChange modelDoesSpec)

/-- ITS FALSE NEIGHBOUR: 'it returns false'. Refute it at one input. -/
def modelDoesWrong : ChangeSpec := { name := "modelDoes", fn := fun _ => fun
  | [d1, d2] => { results := [.lit (.bool false)], args := [d1, d2] }
  | _ => none }
def ModelDoesWrongFalsely : Prop := modelDoesRow.holds Try.pinned (OpenSpec.ofChange modelDoesWrong)

/-- 'varvelaw18.ModelAborts': WHATEVER THE INPUT: true; the input reads as it did. -/
def modelAbortsSpec : ChangeSpec := { name := "modelAborts", fn := fun _ => fun
  | [d1, d2] => { results := [.lit (.bool true)], args := [d1, d2] }
  | _ => none }
def modelAbortsRow : OpenClaim := { program := "ytheidhkmmihjlaa", sum := "1e657426a602756180f1770afe59546d24244becaf163a25546a950ba586450a", func := "varve/varvelaw18.ModelAborts", spec := "modelAborts", unfollowed := true, recurses := true, apart := false }
def ModelAbortsSaid : Prop := modelAbortsRow.holds Try.pinned (OpenSpec.ofChange modelAbortsSpec)

/-- ITS FALSE NEIGHBOUR: 'it returns false'. Refute it at one input. -/
def modelAbortsWrong : ChangeSpec := { name := "modelAborts", fn := fun _ => fun
  | [d1, d2] => { results := [.lit (.bool false)], args := [d1, d2] }
  | _ => none }
def ModelAbortsWrongFalsely : Prop := modelAbortsRow.holds Try.pinned (OpenSpec.ofChange modelAbortsWrong)

/-- 'varvelaw18.ModelReads': WHATEVER THE INPUT: true; the input reads as it did. -/
def modelReadsSpec : ChangeSpec := { name := "modelReads", fn := fun _ => fun
  | [d1, d2, d3, d4] => { results := [.lit (.bool true)], args := [d1, d2, d3, d4] }
  | _ => none }
def modelReadsRow : OpenClaim := { program := "ytheidhkmmihjlaa", sum := "1e657426a602756180f1770afe59546d24244becaf163a25546a950ba586450a", func := "varve/varvelaw18.ModelReads", spec := "modelReads", unfollowed := true, recurses := true, apart := false }
def ModelReadsSaid : Prop := modelReadsRow.holds Try.pinned (OpenSpec.ofChange modelReadsSpec)

/-- ITS FALSE NEIGHBOUR: 'it returns false'. Refute it at one input. -/
def modelReadsWrong : ChangeSpec := { name := "modelReads", fn := fun _ => fun
  | [d1, d2, d3, d4] => { results := [.lit (.bool false)], args := [d1, d2, d3, d4] }
  | _ => none }
def ModelReadsWrongFalsely : Prop := modelReadsRow.holds Try.pinned (OpenSpec.ofChange modelReadsWrong)

/-- 'varvelaw18.ModelLays': WHATEVER THE INPUT: true; the input reads as it did. -/
def modelLaysSpec : ChangeSpec := { name := "modelLays", fn := fun _ => fun
  | [d1, d2] => { results := [.lit (.bool true)], args := [d1, d2] }
  | _ => none }
def modelLaysRow : OpenClaim := { program := "ytheidhkmmihjlaa", sum := "1e657426a602756180f1770afe59546d24244becaf163a25546a950ba586450a", func := "varve/varvelaw18.ModelLays", spec := "modelLays", unfollowed := true, recurses := true, apart := false }
def ModelLaysSaid : Prop := modelLaysRow.holds Try.pinned (OpenSpec.ofChange modelLaysSpec)

/-- ITS FALSE NEIGHBOUR: 'it returns false'. Refute it at one input. -/
def modelLaysWrong : ChangeSpec := { name := "modelLays", fn := fun _ => fun
  | [d1, d2] => { results := [.lit (.bool false)], args := [d1, d2] }
  | _ => none }
def ModelLaysWrongFalsely : Prop := modelLaysRow.holds Try.pinned (OpenSpec.ofChange modelLaysWrong)

/- THE SECOND FORM. 'bulk': how many values and letters a reading holds, each counted each time it is reached (what is shared counts as often as it is met; a slice's spare places count too). A statement '..UptoSaid' is the law's where the arguments, and the package variables that the reading takes, are together of bulk at most 1048576: NARROWER than '..Said'. Prove '..Said' where nothing that the law and all that it calls make is longer than what came in: it says more and counts as full. Else prove '..UptoSaid'. A law counts once. -/
mutual
def uptoBulk {H : Type} : DataW H → Nat
  | .lit (.string bytes) => bytes.length + 1
  | .lit _ => 1
  | .nil => 1
  | .ptr d => uptoBulk d + 1
  | .slice elems spare => uptoBulkAll elems + uptoBulkAll spare + 1
  | .agg parts => uptoBulkAll parts + 1
  | .iface _ d => uptoBulk d + 1
  | .map entries => uptoBulkEntries entries + 1
  | .held _ => 1
def uptoBulkAll {H : Type} : List (DataW H) → Nat
  | [] => 0
  | d :: r => uptoBulk d + uptoBulkAll r
def uptoBulkEntries {H : Type} : List (Lit × DataW H) → Nat
  | [] => 0
  | x :: r => uptoBulkEntry x + uptoBulkEntries r
def uptoBulkEntry {H : Type} : Lit × DataW H → Nat
  | (.string bytes, d) => bytes.length + uptoBulk d + 1
  | (_, d) => uptoBulk d + 1
 end
def uptoSmall : (H : Type) → List (DataW H) → Bool := fun _ ds => decide (uptoBulkAll ds ≤ 1048576)
def OpenSpec.upto (s : _root_.Go.ChangeSpec) : _root_.Go.OpenSpec := { _root_.Go.OpenSpec.ofChange s with cond := some uptoSmall }

/-- 'varvelaw18.ModelDoes', WHERE WHAT IT READS IS OF BULK AT MOST 1048576: true; the input reads as it did. -/
def modelDoesUptoRow : OpenClaim := { program := "ytheidhkmmihjlaa", sum := "1e657426a602756180f1770afe59546d24244becaf163a25546a950ba586450a", func := "varve/varvelaw18.ModelDoes", spec := "modelDoes", unfollowed := true, recurses := true, apart := false, narrowed := true }
def ModelDoesUptoSaid : Prop := modelDoesUptoRow.holds Try.pinned (OpenSpec.upto modelDoesSpec)

/-- 'varvelaw18.ModelAborts', WHERE WHAT IT READS IS OF BULK AT MOST 1048576: true; the input reads as it did. -/
def modelAbortsUptoRow : OpenClaim := { program := "ytheidhkmmihjlaa", sum := "1e657426a602756180f1770afe59546d24244becaf163a25546a950ba586450a", func := "varve/varvelaw18.ModelAborts", spec := "modelAborts", unfollowed := true, recurses := true, apart := false, narrowed := true }
def ModelAbortsUptoSaid : Prop := modelAbortsUptoRow.holds Try.pinned (OpenSpec.upto modelAbortsSpec)

/-- 'varvelaw18.ModelReads', WHERE WHAT IT READS IS OF BULK AT MOST 1048576: true; the input reads as it did. -/
def modelReadsUptoRow : OpenClaim := { program := "ytheidhkmmihjlaa", sum := "1e657426a602756180f1770afe59546d24244becaf163a25546a950ba586450a", func := "varve/varvelaw18.ModelReads", spec := "modelReads", unfollowed := true, recurses := true, apart := false, narrowed := true }
def ModelReadsUptoSaid : Prop := modelReadsUptoRow.holds Try.pinned (OpenSpec.upto modelReadsSpec)

/-- 'varvelaw18.ModelLays', WHERE WHAT IT READS IS OF BULK AT MOST 1048576: true; the input reads as it did. -/
def modelLaysUptoRow : OpenClaim := { program := "ytheidhkmmihjlaa", sum := "1e657426a602756180f1770afe59546d24244becaf163a25546a950ba586450a", func := "varve/varvelaw18.ModelLays", spec := "modelLays", unfollowed := true, recurses := true, apart := false, narrowed := true }
def ModelLaysUptoSaid : Prop := modelLaysUptoRow.holds Try.pinned (OpenSpec.upto modelLaysSpec)

end Rows
end Go.Proofs.Ytheidhkmmihjlaa
