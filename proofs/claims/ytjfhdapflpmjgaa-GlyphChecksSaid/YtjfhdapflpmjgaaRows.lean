/-
  No cell of these rows narrows 'for every input' (looked for: loops, veiled, ifaces, maps, wideKeys, modest, calm, conditions, laid).
  DERIVED. THE GIVEN ROWS OF THIS SEAT. 6 by the template 'for every input the law returns true; each argument reads behind the call as it read before'; 0 by the template 'total and deterministic' (their statements: YtjfhdapflpmjgaaTotals.lean).
  GIVEN WITH THE SEED: the statements are not yours to turn. If you find one false, say at which input.
  Laid BY PROGRAM, IN A SANDBOX (cutbox-rows.mjs): the forced cells as the released guide's own fill.sh prints them over the translation 971e2f3753b720f7… (all of the seat's roots in one cut). By AI agents, Wed Nov 11 2026. No macro, syntax, notation, axiom, sorry.
-/
import Derived.Test.YtjfhdapflpmjgaaChecked
import GoSem.Claim
import GoSem.ClaimJoined
import GoSem.ClaimMapViews
import Derived.JoinedTies
import Derived.KernelRfl
namespace Go.Proofs.Ytjfhdapflpmjgaa
/- THE CELL 'sum', in the pinned program and in every row, IS THE sha256 OF THE DUMP (.gsa) THAT YtjfhdapflpmjgaaProg.lean LOADS. Nothing in Lean hashes anything: it is a label: what it is worth is what the hold of that sum in a sandbox is worth. -/
noncomputable def Try.pinned : Pinned := { name := "ytjfhdapflpmjgaa", sum := "971e2f3753b720f7be9f4696cdb876fa36b2d2c69adedfb2efd21ba4b0454e62", checked := Try.checked }
namespace Rows
def none {H : Type} : Left H := { results := [], args := [] }

/-- 'offsidelaw01.GlyphNexts': WHATEVER THE INPUT: true; the input reads as it did. -/
def glyphNextsSpec : ChangeSpec := { name := "glyphNexts", fn := fun _ => fun
  | [d1, d2] => { results := [.lit (.bool true)], args := [d1, d2] }
  | _ => none }
def glyphNextsRow : OpenClaim := { program := "ytjfhdapflpmjgaa", sum := "971e2f3753b720f7be9f4696cdb876fa36b2d2c69adedfb2efd21ba4b0454e62", func := "offside/offsidelaw01.GlyphNexts", spec := "glyphNexts", apart := false }
def GlyphNextsSaid : Prop := glyphNextsRow.holds Try.pinned (OpenSpec.ofChange glyphNextsSpec)

/-- ITS FALSE NEIGHBOUR: 'it returns false'. Refute it at one input. -/
def glyphNextsWrong : ChangeSpec := { name := "glyphNexts", fn := fun _ => fun
  | [d1, d2] => { results := [.lit (.bool false)], args := [d1, d2] }
  | _ => none }
def GlyphNextsWrongFalsely : Prop := glyphNextsRow.holds Try.pinned (OpenSpec.ofChange glyphNextsWrong)

/-- 'offsidelaw01.GlyphChecks': WHATEVER THE INPUT: true; the input reads as it did. -/
def glyphChecksSpec : ChangeSpec := { name := "glyphChecks", fn := fun _ => fun
  | [d] => { results := [.lit (.bool true)], args := [d] }
  | _ => none }
def glyphChecksRow : OpenClaim := { program := "ytjfhdapflpmjgaa", sum := "971e2f3753b720f7be9f4696cdb876fa36b2d2c69adedfb2efd21ba4b0454e62", func := "offside/offsidelaw01.GlyphChecks", spec := "glyphChecks", apart := false }
def GlyphChecksSaid : Prop := glyphChecksRow.holds Try.pinned (OpenSpec.ofChange glyphChecksSpec)

/-- ITS FALSE NEIGHBOUR: 'it returns false'. Refute it at one input. -/
def glyphChecksWrong : ChangeSpec := { name := "glyphChecks", fn := fun _ => fun
  | [d] => { results := [.lit (.bool false)], args := [d] }
  | _ => none }
def GlyphChecksWrongFalsely : Prop := glyphChecksRow.holds Try.pinned (OpenSpec.ofChange glyphChecksWrong)

/-- 'offsidelaw01.GlyphClasses': WHATEVER THE INPUT: true; the input reads as it did. -/
def glyphClassesSpec : ChangeSpec := { name := "glyphClasses", fn := fun _ => fun
  | [d] => { results := [.lit (.bool true)], args := [d] }
  | _ => none }
def glyphClassesRow : OpenClaim := { program := "ytjfhdapflpmjgaa", sum := "971e2f3753b720f7be9f4696cdb876fa36b2d2c69adedfb2efd21ba4b0454e62", func := "offside/offsidelaw01.GlyphClasses", spec := "glyphClasses", apart := false }
def GlyphClassesSaid : Prop := glyphClassesRow.holds Try.pinned (OpenSpec.ofChange glyphClassesSpec)

/-- ITS FALSE NEIGHBOUR: 'it returns false'. Refute it at one input. -/
def glyphClassesWrong : ChangeSpec := { name := "glyphClasses", fn := fun _ => fun
  | [d] => { results := [.lit (.bool false)], args := [d] }
  | _ => none }
def GlyphClassesWrongFalsely : Prop := glyphClassesRow.holds Try.pinned (OpenSpec.ofChange glyphClassesWrong)

/-- 'offsidelaw01.GlyphDigits': WHATEVER THE INPUT: true; the input reads as it did. -/
def glyphDigitsSpec : ChangeSpec := { name := "glyphDigits", fn := fun _ => fun
  | [d1, d2] => { results := [.lit (.bool true)], args := [d1, d2] }
  | _ => none }
def glyphDigitsRow : OpenClaim := { program := "ytjfhdapflpmjgaa", sum := "971e2f3753b720f7be9f4696cdb876fa36b2d2c69adedfb2efd21ba4b0454e62", func := "offside/offsidelaw01.GlyphDigits", spec := "glyphDigits", apart := false }
def GlyphDigitsSaid : Prop := glyphDigitsRow.holds Try.pinned (OpenSpec.ofChange glyphDigitsSpec)

/-- ITS FALSE NEIGHBOUR: 'it returns false'. Refute it at one input. -/
def glyphDigitsWrong : ChangeSpec := { name := "glyphDigits", fn := fun _ => fun
  | [d1, d2] => { results := [.lit (.bool false)], args := [d1, d2] }
  | _ => none }
def GlyphDigitsWrongFalsely : Prop := glyphDigitsRow.holds Try.pinned (OpenSpec.ofChange glyphDigitsWrong)

/-- 'offsidelaw01.GlyphPieces': WHATEVER THE INPUT: true; the input reads as it did. -/
def glyphPiecesSpec : ChangeSpec := { name := "glyphPieces", fn := fun _ => fun
  | [d] => { results := [.lit (.bool true)], args := [d] }
  | _ => none }
def glyphPiecesRow : OpenClaim := { program := "ytjfhdapflpmjgaa", sum := "971e2f3753b720f7be9f4696cdb876fa36b2d2c69adedfb2efd21ba4b0454e62", func := "offside/offsidelaw01.GlyphPieces", spec := "glyphPieces", apart := false }
def GlyphPiecesSaid : Prop := glyphPiecesRow.holds Try.pinned (OpenSpec.ofChange glyphPiecesSpec)

/-- ITS FALSE NEIGHBOUR: 'it returns false'. Refute it at one input. -/
def glyphPiecesWrong : ChangeSpec := { name := "glyphPieces", fn := fun _ => fun
  | [d] => { results := [.lit (.bool false)], args := [d] }
  | _ => none }
def GlyphPiecesWrongFalsely : Prop := glyphPiecesRow.holds Try.pinned (OpenSpec.ofChange glyphPiecesWrong)

/-- 'offsidelaw01.GlyphJoined': WHATEVER THE INPUT: true; the input reads as it did. -/
def glyphJoinedSpec : ChangeSpec := { name := "glyphJoined", fn := fun _ => fun
  | [d1, d2] => { results := [.lit (.bool true)], args := [d1, d2] }
  | _ => none }
def glyphJoinedRow : OpenClaim := { program := "ytjfhdapflpmjgaa", sum := "971e2f3753b720f7be9f4696cdb876fa36b2d2c69adedfb2efd21ba4b0454e62", func := "offside/offsidelaw01.GlyphJoined", spec := "glyphJoined", apart := false }
def GlyphJoinedSaid : Prop := glyphJoinedRow.holds Try.pinned (OpenSpec.ofChange glyphJoinedSpec)

/-- ITS FALSE NEIGHBOUR: 'it returns false'. Refute it at one input. -/
def glyphJoinedWrong : ChangeSpec := { name := "glyphJoined", fn := fun _ => fun
  | [d1, d2] => { results := [.lit (.bool false)], args := [d1, d2] }
  | _ => none }
def GlyphJoinedWrongFalsely : Prop := glyphJoinedRow.holds Try.pinned (OpenSpec.ofChange glyphJoinedWrong)

/- THE SECOND FORM. 'bulk': how many values and letters a reading holds, each counted each time it is reached (what is shared counts as often as it is met; a slice's spare places count too). A statement '..UptoSaid' is the law's where the arguments, and the package variables that the reading takes, are together of bulk at most 1048576: NARROWER than '..Said'. Prove '..Said' where nothing that the law and all that it calls make is longer than what came in: it says more and counts as full. Else prove '..UptoSaid'. A law counts once. -/
mutual
def uptoBulk {H : Type} : DataW H → Nat
  | .lit (.string bytes) => bytes.length + 1
  | .lit _ => 1
  | .nil => 1
  | .ptr d => uptoBulk d + 1
  | .slice elems spare => uptoBulkAll elems + uptoBulkAll spare + 1
  | .agg parts => uptoBulkAll parts + 1
  | .iface _ d => uptoBulk d + 1
  | .map entries => uptoBulkEntries entries + 1
  | .held _ => 1
def uptoBulkAll {H : Type} : List (DataW H) → Nat
  | [] => 0
  | d :: r => uptoBulk d + uptoBulkAll r
def uptoBulkEntries {H : Type} : List (Lit × DataW H) → Nat
  | [] => 0
  | x :: r => uptoBulkEntry x + uptoBulkEntries r
def uptoBulkEntry {H : Type} : Lit × DataW H → Nat
  | (.string bytes, d) => bytes.length + uptoBulk d + 1
  | (_, d) => uptoBulk d + 1
 end
def uptoSmall : (H : Type) → List (DataW H) → Bool := fun _ ds => decide (uptoBulkAll ds ≤ 1048576)
def OpenSpec.upto (s : _root_.Go.ChangeSpec) : _root_.Go.OpenSpec := { _root_.Go.OpenSpec.ofChange s with cond := some uptoSmall }

/-- 'offsidelaw01.GlyphNexts', WHERE WHAT IT READS IS OF BULK AT MOST 1048576: true; the input reads as it did. -/
def glyphNextsUptoRow : OpenClaim := { program := "ytjfhdapflpmjgaa", sum := "971e2f3753b720f7be9f4696cdb876fa36b2d2c69adedfb2efd21ba4b0454e62", func := "offside/offsidelaw01.GlyphNexts", spec := "glyphNexts", apart := false, narrowed := true }
def GlyphNextsUptoSaid : Prop := glyphNextsUptoRow.holds Try.pinned (OpenSpec.upto glyphNextsSpec)

/-- 'offsidelaw01.GlyphChecks', WHERE WHAT IT READS IS OF BULK AT MOST 1048576: true; the input reads as it did. -/
def glyphChecksUptoRow : OpenClaim := { program := "ytjfhdapflpmjgaa", sum := "971e2f3753b720f7be9f4696cdb876fa36b2d2c69adedfb2efd21ba4b0454e62", func := "offside/offsidelaw01.GlyphChecks", spec := "glyphChecks", apart := false, narrowed := true }
def GlyphChecksUptoSaid : Prop := glyphChecksUptoRow.holds Try.pinned (OpenSpec.upto glyphChecksSpec)

/-- 'offsidelaw01.GlyphClasses', WHERE WHAT IT READS IS OF BULK AT MOST 1048576: true; the input reads as it did. -/
def glyphClassesUptoRow : OpenClaim := { program := "ytjfhdapflpmjgaa", sum := "971e2f3753b720f7be9f4696cdb876fa36b2d2c69adedfb2efd21ba4b0454e62", func := "offside/offsidelaw01.GlyphClasses", spec := "glyphClasses", apart := false, narrowed := true }
def GlyphClassesUptoSaid : Prop := glyphClassesUptoRow.holds Try.pinned (OpenSpec.upto glyphClassesSpec)

/-- 'offsidelaw01.GlyphDigits', WHERE WHAT IT READS IS OF BULK AT MOST 1048576: true; the input reads as it did. -/
def glyphDigitsUptoRow : OpenClaim := { program := "ytjfhdapflpmjgaa", sum := "971e2f3753b720f7be9f4696cdb876fa36b2d2c69adedfb2efd21ba4b0454e62", func := "offside/offsidelaw01.GlyphDigits", spec := "glyphDigits", apart := false, narrowed := true }
def GlyphDigitsUptoSaid : Prop := glyphDigitsUptoRow.holds Try.pinned (OpenSpec.upto glyphDigitsSpec)

/-- 'offsidelaw01.GlyphPieces', WHERE WHAT IT READS IS OF BULK AT MOST 1048576: true; the input reads as it did. -/
def glyphPiecesUptoRow : OpenClaim := { program := "ytjfhdapflpmjgaa", sum := "971e2f3753b720f7be9f4696cdb876fa36b2d2c69adedfb2efd21ba4b0454e62", func := "offside/offsidelaw01.GlyphPieces", spec := "glyphPieces", apart := false, narrowed := true }
def GlyphPiecesUptoSaid : Prop := glyphPiecesUptoRow.holds Try.pinned (OpenSpec.upto glyphPiecesSpec)

/-- 'offsidelaw01.GlyphJoined', WHERE WHAT IT READS IS OF BULK AT MOST 1048576: true; the input reads as it did. -/
def glyphJoinedUptoRow : OpenClaim := { program := "ytjfhdapflpmjgaa", sum := "971e2f3753b720f7be9f4696cdb876fa36b2d2c69adedfb2efd21ba4b0454e62", func := "offside/offsidelaw01.GlyphJoined", spec := "glyphJoined", apart := false, narrowed := true }
def GlyphJoinedUptoSaid : Prop := glyphJoinedUptoRow.holds Try.pinned (OpenSpec.upto glyphJoinedSpec)

end Rows
end Go.Proofs.Ytjfhdapflpmjgaa
