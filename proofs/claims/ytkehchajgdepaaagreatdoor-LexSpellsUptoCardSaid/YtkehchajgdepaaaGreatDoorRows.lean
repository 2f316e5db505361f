/-
  NARROWER THAN 'FOR EVERY INPUT', by the rows' own cells (each row's printed sentence says how): LexTells: laid · LexSpells: laid · LexBack: laid · LexRises: laid · LexHalves: laid.
  DERIVED. THE GIVEN ROWS OF THIS SEAT. 5 by the template 'for every input the law returns true; each argument reads behind the call as it read before'; 0 by the template 'total and deterministic' (their statements: YtkehchajgdepaaaGreatDoorTotals.lean).
  GIVEN WITH THE SEED: the statements are not yours to turn. If you find one false, say at which input.
  Laid BY PROGRAM, IN A SANDBOX (cutbox-rows.mjs): the forced cells as the released guide's own fill.sh prints them over the translation 332e3babc985a3a3… (all of the seat's roots in one cut). By AI agents, Wed Nov 11 2026. No macro, syntax, notation, axiom, sorry.
-/
import Derived.Test.YtkehchajgdepaaaGreatDoorChecked
import GoSem.PinnedTables
import GoSem.Claim
import GoSem.ClaimJoined
import GoSem.ClaimMapViews
import Derived.JoinedTies
import Derived.KernelRfl
namespace Go.Proofs.YtkehchajgdepaaaGreatDoor
/- THE CELL 'sum', in the pinned program and in every row, IS THE sha256 OF THE DUMP (.gsa) THAT YtkehchajgdepaaaGreatDoorProg.lean LOADS. Nothing in Lean hashes anything: it is a label: what it is worth is what the hold of that sum in a sandbox is worth. -/
noncomputable def Tryz.pinned : Pinned := { name := "ytkehchajgdepaaagreatdoor", sum := "332e3babc985a3a351f69f9bd84056e2c93738c782dfb93cf194f39d75959560", checked := Tryz.checked }
namespace Rows
def none {H : Type} : Left H := { results := [], args := [] }

/- WHAT THE LISTED PACKAGE-LEVEL VARIABLES READ AS WHEN THE CALL BEGINS. Each datum BY PROGRAM (the guide's laid-datum.mjs) off the statement by which the dump's own 'gosem.cut.vars' lays the variable. In a bare row this is a premise. The card (YtkehchajgdepaaaGreatDoorCards.lean) ties it to the program's text. -/
def laid_unicode_utf8_acceptRanges {H : Type} : DataW H := .agg [.agg [.lit (.int .u8 128), .lit (.int .u8 191)], .agg [.lit (.int .u8 160), .lit (.int .u8 191)], .agg [.lit (.int .u8 128), .lit (.int .u8 159)], .agg [.lit (.int .u8 144), .lit (.int .u8 191)], .agg [.lit (.int .u8 128), .lit (.int .u8 143)], .agg [.lit (.int .u8 0), .lit (.int .u8 0)], .agg [.lit (.int .u8 0), .lit (.int .u8 0)], .agg [.lit (.int .u8 0), .lit (.int .u8 0)], .agg [.lit (.int .u8 0), .lit (.int .u8 0)], .agg [.lit (.int .u8 0), .lit (.int .u8 0)], .agg [.lit (.int .u8 0), .lit (.int .u8 0)], .agg [.lit (.int .u8 0), .lit (.int .u8 0)], .agg [.lit (.int .u8 0), .lit (.int .u8 0)], .agg [.lit (.int .u8 0), .lit (.int .u8 0)], .agg [.lit (.int .u8 0), .lit (.int .u8 0)], .agg [.lit (.int .u8 0), .lit (.int .u8 0)]]
def laid_offside_quote_names {H : Type} : DataW H := .agg [.lit (.string [78, 85, 76]), .lit (.string [83, 79, 72]), .lit (.string [83, 84, 88]), .lit (.string [69, 84, 88]), .lit (.string [69, 79, 84]), .lit (.string [69, 78, 81]), .lit (.string [65, 67, 75]), .lit (.string [66, 69, 76]), .lit (.string [66, 83]), .lit (.string [72, 84]), .lit (.string [76, 70]), .lit (.string [86, 84]), .lit (.string [70, 70]), .lit (.string [67, 82]), .lit (.string [83, 79]), .lit (.string [83, 73]), .lit (.string [68, 76, 69]), .lit (.string [68, 67, 49]), .lit (.string [68, 67, 50]), .lit (.string [68, 67, 51]), .lit (.string [68, 67, 52]), .lit (.string [78, 65, 75]), .lit (.string [83, 89, 78]), .lit (.string [69, 84, 66]), .lit (.string [67, 65, 78]), .lit (.string [69, 77]), .lit (.string [83, 85, 66]), .lit (.string [69, 83, 67]), .lit (.string [70, 83]), .lit (.string [71, 83]), .lit (.string [82, 83]), .lit (.string [85, 83]), .lit (.string [83, 80])]
/-- One of Go's own tables, pinned by name: the form's constant. -/
def laid_unicode_utf8_first : DataW Unit := Go.Pinned.utf8First

/-- 'offsidelaw07.LexTells': WHATEVER THE INPUT: true; the input reads as it did. -/
def lexTellsSpec : ChangeSpec := { name := "lexTells", fn := fun _ => fun
  | [d] => { results := [.lit (.bool true)], args := [d] }
  | _ => none }
def lexTellsRow : OpenClaim := { program := "ytkehchajgdepaaagreatdoor", sum := "332e3babc985a3a351f69f9bd84056e2c93738c782dfb93cf194f39d75959560", func := "offside/offsidelaw07.LexTells", spec := "lexTells", inPlace := ["internal/bytealg.IndexByteString", "internal/bytealg.IndexString"], unfollowed := true, recurses := true, named := ["unicode/utf8.first", "unicode/utf8.acceptRanges", "offside/quote.names", "internal/bytealg.MaxLen"], apart := false, laid := [("unicode/utf8.acceptRanges", laid_unicode_utf8_acceptRanges), ("offside/quote.names", laid_offside_quote_names), ("unicode/utf8.first", laid_unicode_utf8_first)] }
def LexTellsSaid : Prop := lexTellsRow.holds Tryz.pinned (OpenSpec.ofChange lexTellsSpec)

/-- ITS FALSE NEIGHBOUR: 'it returns false'. Refute it at one input. -/
def lexTellsWrong : ChangeSpec := { name := "lexTells", fn := fun _ => fun
  | [d] => { results := [.lit (.bool false)], args := [d] }
  | _ => none }
def LexTellsWrongFalsely : Prop := lexTellsRow.holds Tryz.pinned (OpenSpec.ofChange lexTellsWrong)

/-- 'offsidelaw07.LexSpells': WHATEVER THE INPUT: true; the input reads as it did. -/
def lexSpellsSpec : ChangeSpec := { name := "lexSpells", fn := fun _ => fun
  | [d1, d2] => { results := [.lit (.bool true)], args := [d1, d2] }
  | _ => none }
def lexSpellsRow : OpenClaim := { program := "ytkehchajgdepaaagreatdoor", sum := "332e3babc985a3a351f69f9bd84056e2c93738c782dfb93cf194f39d75959560", func := "offside/offsidelaw07.LexSpells", spec := "lexSpells", inPlace := ["internal/bytealg.IndexByteString", "internal/bytealg.IndexString", "internal/abi.NoEscape", "internal/bytealg.MakeNoZero"], unfollowed := true, recurses := true, named := ["unicode/utf8.first", "unicode/utf8.acceptRanges", "offside/quote.names", "internal/bytealg.MaxLen"], apart := false, laid := [("unicode/utf8.acceptRanges", laid_unicode_utf8_acceptRanges), ("offside/quote.names", laid_offside_quote_names), ("unicode/utf8.first", laid_unicode_utf8_first)] }
def LexSpellsSaid : Prop := lexSpellsRow.holds Tryz.pinned (OpenSpec.ofChange lexSpellsSpec)

/-- ITS FALSE NEIGHBOUR: 'it returns false'. Refute it at one input. -/
def lexSpellsWrong : ChangeSpec := { name := "lexSpells", fn := fun _ => fun
  | [d1, d2] => { results := [.lit (.bool false)], args := [d1, d2] }
  | _ => none }
def LexSpellsWrongFalsely : Prop := lexSpellsRow.holds Tryz.pinned (OpenSpec.ofChange lexSpellsWrong)

/-- 'offsidelaw07.LexBack': WHATEVER THE INPUT: true; the input reads as it did. -/
def lexBackSpec : ChangeSpec := { name := "lexBack", fn := fun _ => fun
  | [d] => { results := [.lit (.bool true)], args := [d] }
  | _ => none }
def lexBackRow : OpenClaim := { program := "ytkehchajgdepaaagreatdoor", sum := "332e3babc985a3a351f69f9bd84056e2c93738c782dfb93cf194f39d75959560", func := "offside/offsidelaw07.LexBack", spec := "lexBack", inPlace := ["internal/bytealg.IndexByteString", "internal/bytealg.IndexString", "internal/abi.NoEscape", "internal/bytealg.MakeNoZero"], unfollowed := true, recurses := true, named := ["unicode/utf8.first", "unicode/utf8.acceptRanges", "offside/quote.names", "internal/bytealg.MaxLen"], apart := false, laid := [("unicode/utf8.acceptRanges", laid_unicode_utf8_acceptRanges), ("offside/quote.names", laid_offside_quote_names), ("unicode/utf8.first", laid_unicode_utf8_first)] }
def LexBackSaid : Prop := lexBackRow.holds Tryz.pinned (OpenSpec.ofChange lexBackSpec)

/-- ITS FALSE NEIGHBOUR: 'it returns false'. Refute it at one input. -/
def lexBackWrong : ChangeSpec := { name := "lexBack", fn := fun _ => fun
  | [d] => { results := [.lit (.bool false)], args := [d] }
  | _ => none }
def LexBackWrongFalsely : Prop := lexBackRow.holds Tryz.pinned (OpenSpec.ofChange lexBackWrong)

/-- 'offsidelaw07.LexRises': WHATEVER THE INPUT: true; the input reads as it did. -/
def lexRisesSpec : ChangeSpec := { name := "lexRises", fn := fun _ => fun
  | [d] => { results := [.lit (.bool true)], args := [d] }
  | _ => none }
def lexRisesRow : OpenClaim := { program := "ytkehchajgdepaaagreatdoor", sum := "332e3babc985a3a351f69f9bd84056e2c93738c782dfb93cf194f39d75959560", func := "offside/offsidelaw07.LexRises", spec := "lexRises", inPlace := ["internal/bytealg.IndexByteString", "internal/bytealg.IndexString"], unfollowed := true, recurses := true, named := ["unicode/utf8.first", "unicode/utf8.acceptRanges", "offside/quote.names", "internal/bytealg.MaxLen"], apart := false, laid := [("unicode/utf8.acceptRanges", laid_unicode_utf8_acceptRanges), ("offside/quote.names", laid_offside_quote_names), ("unicode/utf8.first", laid_unicode_utf8_first)] }
def LexRisesSaid : Prop := lexRisesRow.holds Tryz.pinned (OpenSpec.ofChange lexRisesSpec)

/-- ITS FALSE NEIGHBOUR: 'it returns false'. Refute it at one input. -/
def lexRisesWrong : ChangeSpec := { name := "lexRises", fn := fun _ => fun
  | [d] => { results := [.lit (.bool false)], args := [d] }
  | _ => none }
def LexRisesWrongFalsely : Prop := lexRisesRow.holds Tryz.pinned (OpenSpec.ofChange lexRisesWrong)

/-- 'offsidelaw07.LexHalves': WHATEVER THE INPUT: true; the input reads as it did. -/
def lexHalvesSpec : ChangeSpec := { name := "lexHalves", fn := fun _ => fun
  | [d1, d2] => { results := [.lit (.bool true)], args := [d1, d2] }
  | _ => none }
def lexHalvesRow : OpenClaim := { program := "ytkehchajgdepaaagreatdoor", sum := "332e3babc985a3a351f69f9bd84056e2c93738c782dfb93cf194f39d75959560", func := "offside/offsidelaw07.LexHalves", spec := "lexHalves", inPlace := ["internal/bytealg.IndexByteString", "internal/bytealg.IndexString"], unfollowed := true, recurses := true, named := ["unicode/utf8.first", "unicode/utf8.acceptRanges", "offside/quote.names", "internal/bytealg.MaxLen"], apart := false, laid := [("unicode/utf8.acceptRanges", laid_unicode_utf8_acceptRanges), ("offside/quote.names", laid_offside_quote_names), ("unicode/utf8.first", laid_unicode_utf8_first)] }
def LexHalvesSaid : Prop := lexHalvesRow.holds Tryz.pinned (OpenSpec.ofChange lexHalvesSpec)

/-- ITS FALSE NEIGHBOUR: 'it returns false'. Refute it at one input. -/
def lexHalvesWrong : ChangeSpec := { name := "lexHalves", fn := fun _ => fun
  | [d1, d2] => { results := [.lit (.bool false)], args := [d1, d2] }
  | _ => none }
def LexHalvesWrongFalsely : Prop := lexHalvesRow.holds Tryz.pinned (OpenSpec.ofChange lexHalvesWrong)

/- THE SECOND FORM. 'bulk': how many values and letters a reading holds, each counted each time it is reached (what is shared counts as often as it is met; a slice's spare places count too). A statement '..UptoSaid' is the law's where the arguments, and the package variables that the reading takes, are together of bulk at most 1048576: NARROWER than '..Said'. Prove '..Said' where nothing that the law and all that it calls make is longer than what came in: it says more and counts as full. Else prove '..UptoSaid'. A law counts once. -/
mutual
def uptoBulk {H : Type} : DataW H → Nat
  | .lit (.string bytes) => bytes.length + 1
  | .lit _ => 1
  | .nil => 1
  | .ptr d => uptoBulk d + 1
  | .slice elems spare => uptoBulkAll elems + uptoBulkAll spare + 1
  | .agg parts => uptoBulkAll parts + 1
  | .iface _ d => uptoBulk d + 1
  | .map entries => uptoBulkEntries entries + 1
  | .held _ => 1
def uptoBulkAll {H : Type} : List (DataW H) → Nat
  | [] => 0
  | d :: r => uptoBulk d + uptoBulkAll r
def uptoBulkEntries {H : Type} : List (Lit × DataW H) → Nat
  | [] => 0
  | x :: r => uptoBulkEntry x + uptoBulkEntries r
def uptoBulkEntry {H : Type} : Lit × DataW H → Nat
  | (.string bytes, d) => bytes.length + uptoBulk d + 1
  | (_, d) => uptoBulk d + 1
 end
def uptoSmall : (H : Type) → List (DataW H) → Bool := fun _ ds => decide (uptoBulkAll ds ≤ 1048576)
def OpenSpec.upto (s : _root_.Go.ChangeSpec) : _root_.Go.OpenSpec := { _root_.Go.OpenSpec.ofChange s with cond := some uptoSmall }

/-- 'offsidelaw07.LexTells', WHERE WHAT IT READS IS OF BULK AT MOST 1048576: true; the input reads as it did. -/
def lexTellsUptoRow : OpenClaim := { program := "ytkehchajgdepaaagreatdoor", sum := "332e3babc985a3a351f69f9bd84056e2c93738c782dfb93cf194f39d75959560", func := "offside/offsidelaw07.LexTells", spec := "lexTells", inPlace := ["internal/bytealg.IndexByteString", "internal/bytealg.IndexString"], unfollowed := true, recurses := true, named := ["unicode/utf8.first", "unicode/utf8.acceptRanges", "offside/quote.names", "internal/bytealg.MaxLen"], apart := false, laid := [("unicode/utf8.acceptRanges", laid_unicode_utf8_acceptRanges), ("offside/quote.names", laid_offside_quote_names), ("unicode/utf8.first", laid_unicode_utf8_first)], narrowed := true }
def LexTellsUptoSaid : Prop := lexTellsUptoRow.holds Tryz.pinned (OpenSpec.upto lexTellsSpec)

/-- 'offsidelaw07.LexSpells', WHERE WHAT IT READS IS OF BULK AT MOST 1048576: true; the input reads as it did. -/
def lexSpellsUptoRow : OpenClaim := { program := "ytkehchajgdepaaagreatdoor", sum := "332e3babc985a3a351f69f9bd84056e2c93738c782dfb93cf194f39d75959560", func := "offside/offsidelaw07.LexSpells", spec := "lexSpells", inPlace := ["internal/bytealg.IndexByteString", "internal/bytealg.IndexString", "internal/abi.NoEscape", "internal/bytealg.MakeNoZero"], unfollowed := true, recurses := true, named := ["unicode/utf8.first", "unicode/utf8.acceptRanges", "offside/quote.names", "internal/bytealg.MaxLen"], apart := false, laid := [("unicode/utf8.acceptRanges", laid_unicode_utf8_acceptRanges), ("offside/quote.names", laid_offside_quote_names), ("unicode/utf8.first", laid_unicode_utf8_first)], narrowed := true }
def LexSpellsUptoSaid : Prop := lexSpellsUptoRow.holds Tryz.pinned (OpenSpec.upto lexSpellsSpec)

/-- 'offsidelaw07.LexBack', WHERE WHAT IT READS IS OF BULK AT MOST 1048576: true; the input reads as it did. -/
def lexBackUptoRow : OpenClaim := { program := "ytkehchajgdepaaagreatdoor", sum := "332e3babc985a3a351f69f9bd84056e2c93738c782dfb93cf194f39d75959560", func := "offside/offsidelaw07.LexBack", spec := "lexBack", inPlace := ["internal/bytealg.IndexByteString", "internal/bytealg.IndexString", "internal/abi.NoEscape", "internal/bytealg.MakeNoZero"], unfollowed := true, recurses := true, named := ["unicode/utf8.first", "unicode/utf8.acceptRanges", "offside/quote.names", "internal/bytealg.MaxLen"], apart := false, laid := [("unicode/utf8.acceptRanges", laid_unicode_utf8_acceptRanges), ("offside/quote.names", laid_offside_quote_names), ("unicode/utf8.first", laid_unicode_utf8_first)], narrowed := true }
def LexBackUptoSaid : Prop := lexBackUptoRow.holds Tryz.pinned (OpenSpec.upto lexBackSpec)

/-- 'offsidelaw07.LexRises', WHERE WHAT IT READS IS OF BULK AT MOST 1048576: true; the input reads as it did. -/
def lexRisesUptoRow : OpenClaim := { program := "ytkehchajgdepaaagreatdoor", sum := "332e3babc985a3a351f69f9bd84056e2c93738c782dfb93cf194f39d75959560", func := "offside/offsidelaw07.LexRises", spec := "lexRises", inPlace := ["internal/bytealg.IndexByteString", "internal/bytealg.IndexString"], unfollowed := true, recurses := true, named := ["unicode/utf8.first", "unicode/utf8.acceptRanges", "offside/quote.names", "internal/bytealg.MaxLen"], apart := false, laid := [("unicode/utf8.acceptRanges", laid_unicode_utf8_acceptRanges), ("offside/quote.names", laid_offside_quote_names), ("unicode/utf8.first", laid_unicode_utf8_first)], narrowed := true }
def LexRisesUptoSaid : Prop := lexRisesUptoRow.holds Tryz.pinned (OpenSpec.upto lexRisesSpec)

/-- 'offsidelaw07.LexHalves', WHERE WHAT IT READS IS OF BULK AT MOST 1048576: true; the input reads as it did. -/
def lexHalvesUptoRow : OpenClaim := { program := "ytkehchajgdepaaagreatdoor", sum := "332e3babc985a3a351f69f9bd84056e2c93738c782dfb93cf194f39d75959560", func := "offside/offsidelaw07.LexHalves", spec := "lexHalves", inPlace := ["internal/bytealg.IndexByteString", "internal/bytealg.IndexString"], unfollowed := true, recurses := true, named := ["unicode/utf8.first", "unicode/utf8.acceptRanges", "offside/quote.names", "internal/bytealg.MaxLen"], apart := false, laid := [("unicode/utf8.acceptRanges", laid_unicode_utf8_acceptRanges), ("offside/quote.names", laid_offside_quote_names), ("unicode/utf8.first", laid_unicode_utf8_first)], narrowed := true }
def LexHalvesUptoSaid : Prop := lexHalvesUptoRow.holds Tryz.pinned (OpenSpec.upto lexHalvesSpec)

end Rows
end Go.Proofs.YtkehchajgdepaaaGreatDoor
