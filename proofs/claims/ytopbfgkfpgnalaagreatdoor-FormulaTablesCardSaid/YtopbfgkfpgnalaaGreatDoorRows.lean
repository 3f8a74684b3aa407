/-
  NARROWER THAN 'FOR EVERY INPUT', by the rows' own cells (each row's printed sentence says how): FormulaValid: loops, laid · FormulaTables: loops, laid · FormulaTexts: loops, laid · FormulaExprs: loops, laid · FormulaEvals: loops, laid · FormulaPolys: loops, laid · FormulaExprTexts: loops, laid · FormulaArith: loops, laid · FormulaLaws: loops, laid · FormulaBack: loops, laid · FormulaValues: loops, laid · FormulaOwn: loops, laid.
  DERIVED. THE GIVEN ROWS OF THIS SEAT. 12 by the template 'for every input the law returns true; each argument reads behind the call as it read before'; 0 by the template 'total and deterministic' (their statements: YtopbfgkfpgnalaaGreatDoorTotals.lean).
  GIVEN WITH THE SEED: the statements are not yours to turn. If you find one false, say at which input.
  Laid BY PROGRAM, IN A SANDBOX (cutbox-rows.mjs): the forced cells as the released guide's own fill.sh prints them over the translation c046ab6c32979122… (all of the seat's roots in one cut). By AI agents, Wed Nov 11 2026. No macro, syntax, notation, axiom, sorry.
-/
import Derived.Test.YtopbfgkfpgnalaaGreatDoorChecked
import GoSem.PinnedTables
import GoSem.Claim
import GoSem.ClaimJoined
import GoSem.ClaimMapViews
import Derived.JoinedTies
import Derived.KernelRfl
namespace Go.Proofs.YtopbfgkfpgnalaaGreatDoor
/- THE CELL 'sum', in the pinned program and in every row, IS THE sha256 OF THE DUMP (.gsa) THAT YtopbfgkfpgnalaaGreatDoorProg.lean LOADS. Nothing in Lean hashes anything: it is a label: what it is worth is what the hold of that sum in a sandbox is worth. -/
noncomputable def Tryz.pinned : Pinned := { name := "ytopbfgkfpgnalaagreatdoor", sum := "c046ab6c329791223f3f8f44f6e94555b83154d02f52da3132ae26269d38bd80", checked := Tryz.checked }
namespace Rows
def none {H : Type} : Left H := { results := [], args := [] }

/- WHAT THE LISTED PACKAGE-LEVEL VARIABLES READ AS WHEN THE CALL BEGINS. Each datum BY PROGRAM (the guide's laid-datum.mjs) off the statement by which the dump's own 'gosem.cut.vars' lays the variable. In a bare row this is a premise. The card (YtopbfgkfpgnalaaGreatDoorCards.lean) ties it to the program's text. -/
def laid_commodatum_field_smallPrimes {H : Type} : DataW H := .slice [.lit (.int .u32 2), .lit (.int .u32 3), .lit (.int .u32 5), .lit (.int .u32 7), .lit (.int .u32 11), .lit (.int .u32 13), .lit (.int .u32 17), .lit (.int .u32 19), .lit (.int .u32 23), .lit (.int .u32 29), .lit (.int .u32 31), .lit (.int .u32 37), .lit (.int .u32 41), .lit (.int .u32 43), .lit (.int .u32 47), .lit (.int .u32 53), .lit (.int .u32 59), .lit (.int .u32 61), .lit (.int .u32 67), .lit (.int .u32 71), .lit (.int .u32 73), .lit (.int .u32 79), .lit (.int .u32 83), .lit (.int .u32 89), .lit (.int .u32 97), .lit (.int .u32 101), .lit (.int .u32 103), .lit (.int .u32 107), .lit (.int .u32 109), .lit (.int .u32 113), .lit (.int .u32 127), .lit (.int .u32 131), .lit (.int .u32 137), .lit (.int .u32 139), .lit (.int .u32 149), .lit (.int .u32 151), .lit (.int .u32 157), .lit (.int .u32 163), .lit (.int .u32 167), .lit (.int .u32 173), .lit (.int .u32 179), .lit (.int .u32 181), .lit (.int .u32 191), .lit (.int .u32 193), .lit (.int .u32 197), .lit (.int .u32 199), .lit (.int .u32 211), .lit (.int .u32 223), .lit (.int .u32 227), .lit (.int .u32 229), .lit (.int .u32 233), .lit (.int .u32 239), .lit (.int .u32 241), .lit (.int .u32 251)] []
def laid_math_bits_deBruijn32tab {H : Type} : DataW H := .agg [.lit (.int .u8 0), .lit (.int .u8 1), .lit (.int .u8 28), .lit (.int .u8 2), .lit (.int .u8 29), .lit (.int .u8 14), .lit (.int .u8 24), .lit (.int .u8 3), .lit (.int .u8 30), .lit (.int .u8 22), .lit (.int .u8 20), .lit (.int .u8 15), .lit (.int .u8 25), .lit (.int .u8 17), .lit (.int .u8 4), .lit (.int .u8 8), .lit (.int .u8 31), .lit (.int .u8 27), .lit (.int .u8 13), .lit (.int .u8 23), .lit (.int .u8 21), .lit (.int .u8 19), .lit (.int .u8 16), .lit (.int .u8 7), .lit (.int .u8 26), .lit (.int .u8 12), .lit (.int .u8 18), .lit (.int .u8 6), .lit (.int .u8 11), .lit (.int .u8 5), .lit (.int .u8 10), .lit (.int .u8 9)]
def laid_math_bits_deBruijn64tab {H : Type} : DataW H := .agg [.lit (.int .u8 0), .lit (.int .u8 1), .lit (.int .u8 56), .lit (.int .u8 2), .lit (.int .u8 57), .lit (.int .u8 49), .lit (.int .u8 28), .lit (.int .u8 3), .lit (.int .u8 61), .lit (.int .u8 58), .lit (.int .u8 42), .lit (.int .u8 50), .lit (.int .u8 38), .lit (.int .u8 29), .lit (.int .u8 17), .lit (.int .u8 4), .lit (.int .u8 62), .lit (.int .u8 47), .lit (.int .u8 59), .lit (.int .u8 36), .lit (.int .u8 45), .lit (.int .u8 43), .lit (.int .u8 51), .lit (.int .u8 22), .lit (.int .u8 53), .lit (.int .u8 39), .lit (.int .u8 33), .lit (.int .u8 30), .lit (.int .u8 24), .lit (.int .u8 18), .lit (.int .u8 12), .lit (.int .u8 5), .lit (.int .u8 63), .lit (.int .u8 55), .lit (.int .u8 48), .lit (.int .u8 27), .lit (.int .u8 60), .lit (.int .u8 41), .lit (.int .u8 37), .lit (.int .u8 16), .lit (.int .u8 46), .lit (.int .u8 35), .lit (.int .u8 44), .lit (.int .u8 21), .lit (.int .u8 52), .lit (.int .u8 32), .lit (.int .u8 23), .lit (.int .u8 11), .lit (.int .u8 54), .lit (.int .u8 26), .lit (.int .u8 40), .lit (.int .u8 15), .lit (.int .u8 34), .lit (.int .u8 20), .lit (.int .u8 31), .lit (.int .u8 10), .lit (.int .u8 25), .lit (.int .u8 14), .lit (.int .u8 19), .lit (.int .u8 9), .lit (.int .u8 13), .lit (.int .u8 8), .lit (.int .u8 7), .lit (.int .u8 6)]
def laid_internal_strconv_uint64pow10 {H : Type} : DataW H := .agg [.lit (.int .u64 1), .lit (.int .u64 10), .lit (.int .u64 100), .lit (.int .u64 1000), .lit (.int .u64 10000), .lit (.int .u64 100000), .lit (.int .u64 1000000), .lit (.int .u64 10000000), .lit (.int .u64 100000000), .lit (.int .u64 1000000000), .lit (.int .u64 10000000000), .lit (.int .u64 100000000000), .lit (.int .u64 1000000000000), .lit (.int .u64 10000000000000), .lit (.int .u64 100000000000000), .lit (.int .u64 1000000000000000), .lit (.int .u64 10000000000000000), .lit (.int .u64 100000000000000000), .lit (.int .u64 1000000000000000000), .lit (.int .u64 10000000000000000000)]
def laid_unicode_utf8_acceptRanges {H : Type} : DataW H := .agg [.agg [.lit (.int .u8 128), .lit (.int .u8 191)], .agg [.lit (.int .u8 160), .lit (.int .u8 191)], .agg [.lit (.int .u8 128), .lit (.int .u8 159)], .agg [.lit (.int .u8 144), .lit (.int .u8 191)], .agg [.lit (.int .u8 128), .lit (.int .u8 143)], .agg [.lit (.int .u8 0), .lit (.int .u8 0)], .agg [.lit (.int .u8 0), .lit (.int .u8 0)], .agg [.lit (.int .u8 0), .lit (.int .u8 0)], .agg [.lit (.int .u8 0), .lit (.int .u8 0)], .agg [.lit (.int .u8 0), .lit (.int .u8 0)], .agg [.lit (.int .u8 0), .lit (.int .u8 0)], .agg [.lit (.int .u8 0), .lit (.int .u8 0)], .agg [.lit (.int .u8 0), .lit (.int .u8 0)], .agg [.lit (.int .u8 0), .lit (.int .u8 0)], .agg [.lit (.int .u8 0), .lit (.int .u8 0)], .agg [.lit (.int .u8 0), .lit (.int .u8 0)]]
def laid_strconv_ErrRange {H : Type} : DataW H := .iface "*errors.errorString" (.ptr (.agg [.lit (.string [118, 97, 108, 117, 101, 32, 111, 117, 116, 32, 111, 102, 32, 114, 97, 110, 103, 101])]))
def laid_strconv_ErrSyntax {H : Type} : DataW H := .iface "*errors.errorString" (.ptr (.agg [.lit (.string [105, 110, 118, 97, 108, 105, 100, 32, 115, 121, 110, 116, 97, 120])]))
/-- One of Go's own tables, pinned by name: the form's constant. -/
def laid_unicode_utf8_first : DataW Unit := Go.Pinned.utf8First

/-- 'commodatumlaw05.FormulaValid': WHATEVER THE INPUT: true; the input reads as it did. -/
def formulaValidSpec : ChangeSpec := { name := "formulaValid", fn := fun _ => fun
  | [d] => { results := [.lit (.bool true)], args := [d] }
  | _ => none }
def formulaValidRow : OpenClaim := { program := "ytopbfgkfpgnalaagreatdoor", sum := "c046ab6c329791223f3f8f44f6e94555b83154d02f52da3132ae26269d38bd80", func := "commodatum/commodatumlaw05.FormulaValid", spec := "formulaValid", inPlace := ["internal/bytealg.IndexByteString", "internal/bytealg.IndexString"], unfollowed := true, recurses := true, named := ["unicode/utf8.first", "unicode/utf8.acceptRanges", "strconv.ErrSyntax", "strconv.ErrRange", "internal/strconv.uint64pow10", "math/bits.deBruijn32tab", "math/bits.deBruijn64tab", "commodatum/field.smallPrimes", "internal/bytealg.MaxLen"], loops := true, apart := false, laid := [("commodatum/field.smallPrimes", laid_commodatum_field_smallPrimes), ("math/bits.deBruijn32tab", laid_math_bits_deBruijn32tab), ("math/bits.deBruijn64tab", laid_math_bits_deBruijn64tab), ("internal/strconv.uint64pow10", laid_internal_strconv_uint64pow10), ("unicode/utf8.acceptRanges", laid_unicode_utf8_acceptRanges), ("strconv.ErrRange", laid_strconv_ErrRange), ("strconv.ErrSyntax", laid_strconv_ErrSyntax), ("unicode/utf8.first", laid_unicode_utf8_first)] }
def FormulaValidSaid : Prop := formulaValidRow.holds Tryz.pinned (OpenSpec.ofChange formulaValidSpec)

/-- ITS FALSE NEIGHBOUR: 'it returns false'. Refute it at one input. -/
def formulaValidWrong : ChangeSpec := { name := "formulaValid", fn := fun _ => fun
  | [d] => { results := [.lit (.bool false)], args := [d] }
  | _ => none }
def FormulaValidWrongFalsely : Prop := formulaValidRow.holds Tryz.pinned (OpenSpec.ofChange formulaValidWrong)

/-- 'commodatumlaw05.FormulaTables': WHATEVER THE INPUT: true; the input reads as it did. -/
def formulaTablesSpec : ChangeSpec := { name := "formulaTables", fn := fun _ => fun
  | [d1, d2, d3] => { results := [.lit (.bool true)], args := [d1, d2, d3] }
  | _ => none }
def formulaTablesRow : OpenClaim := { program := "ytopbfgkfpgnalaagreatdoor", sum := "c046ab6c329791223f3f8f44f6e94555b83154d02f52da3132ae26269d38bd80", func := "commodatum/commodatumlaw05.FormulaTables", spec := "formulaTables", inPlace := ["internal/bytealg.IndexByteString", "internal/bytealg.IndexString"], unfollowed := true, recurses := true, named := ["unicode/utf8.first", "unicode/utf8.acceptRanges", "strconv.ErrSyntax", "strconv.ErrRange", "internal/strconv.uint64pow10", "math/bits.deBruijn32tab", "math/bits.deBruijn64tab", "commodatum/field.smallPrimes", "internal/bytealg.MaxLen"], loops := true, apart := false, laid := [("commodatum/field.smallPrimes", laid_commodatum_field_smallPrimes), ("math/bits.deBruijn32tab", laid_math_bits_deBruijn32tab), ("math/bits.deBruijn64tab", laid_math_bits_deBruijn64tab), ("internal/strconv.uint64pow10", laid_internal_strconv_uint64pow10), ("unicode/utf8.acceptRanges", laid_unicode_utf8_acceptRanges), ("strconv.ErrRange", laid_strconv_ErrRange), ("strconv.ErrSyntax", laid_strconv_ErrSyntax), ("unicode/utf8.first", laid_unicode_utf8_first)] }
def FormulaTablesSaid : Prop := formulaTablesRow.holds Tryz.pinned (OpenSpec.ofChange formulaTablesSpec)

/-- ITS FALSE NEIGHBOUR: 'it returns false'. Refute it at one input. -/
def formulaTablesWrong : ChangeSpec := { name := "formulaTables", fn := fun _ => fun
  | [d1, d2, d3] => { results := [.lit (.bool false)], args := [d1, d2, d3] }
  | _ => none }
def FormulaTablesWrongFalsely : Prop := formulaTablesRow.holds Tryz.pinned (OpenSpec.ofChange formulaTablesWrong)

/-- 'commodatumlaw05.FormulaTexts': WHATEVER THE INPUT: true; the input reads as it did. -/
def formulaTextsSpec : ChangeSpec := { name := "formulaTexts", fn := fun _ => fun
  | [d1, d2] => { results := [.lit (.bool true)], args := [d1, d2] }
  | _ => none }
def formulaTextsRow : OpenClaim := { program := "ytopbfgkfpgnalaagreatdoor", sum := "c046ab6c329791223f3f8f44f6e94555b83154d02f52da3132ae26269d38bd80", func := "commodatum/commodatumlaw05.FormulaTexts", spec := "formulaTexts", inPlace := ["internal/bytealg.IndexByteString", "internal/bytealg.IndexString"], unfollowed := true, recurses := true, named := ["unicode/utf8.first", "unicode/utf8.acceptRanges", "strconv.ErrSyntax", "strconv.ErrRange", "internal/strconv.uint64pow10", "math/bits.deBruijn32tab", "math/bits.deBruijn64tab", "commodatum/field.smallPrimes", "internal/bytealg.MaxLen"], loops := true, apart := false, laid := [("commodatum/field.smallPrimes", laid_commodatum_field_smallPrimes), ("math/bits.deBruijn32tab", laid_math_bits_deBruijn32tab), ("math/bits.deBruijn64tab", laid_math_bits_deBruijn64tab), ("internal/strconv.uint64pow10", laid_internal_strconv_uint64pow10), ("unicode/utf8.acceptRanges", laid_unicode_utf8_acceptRanges), ("strconv.ErrRange", laid_strconv_ErrRange), ("strconv.ErrSyntax", laid_strconv_ErrSyntax), ("unicode/utf8.first", laid_unicode_utf8_first)] }
def FormulaTextsSaid : Prop := formulaTextsRow.holds Tryz.pinned (OpenSpec.ofChange formulaTextsSpec)

/-- ITS FALSE NEIGHBOUR: 'it returns false'. Refute it at one input. -/
def formulaTextsWrong : ChangeSpec := { name := "formulaTexts", fn := fun _ => fun
  | [d1, d2] => { results := [.lit (.bool false)], args := [d1, d2] }
  | _ => none }
def FormulaTextsWrongFalsely : Prop := formulaTextsRow.holds Tryz.pinned (OpenSpec.ofChange formulaTextsWrong)

/-- 'commodatumlaw05.FormulaExprs': WHATEVER THE INPUT: true; the input reads as it did. -/
def formulaExprsSpec : ChangeSpec := { name := "formulaExprs", fn := fun _ => fun
  | [d1, d2] => { results := [.lit (.bool true)], args := [d1, d2] }
  | _ => none }
def formulaExprsRow : OpenClaim := { program := "ytopbfgkfpgnalaagreatdoor", sum := "c046ab6c329791223f3f8f44f6e94555b83154d02f52da3132ae26269d38bd80", func := "commodatum/commodatumlaw05.FormulaExprs", spec := "formulaExprs", inPlace := ["internal/bytealg.IndexByteString", "internal/bytealg.IndexString"], unfollowed := true, recurses := true, named := ["unicode/utf8.first", "unicode/utf8.acceptRanges", "strconv.ErrSyntax", "strconv.ErrRange", "internal/strconv.uint64pow10", "math/bits.deBruijn32tab", "math/bits.deBruijn64tab", "commodatum/field.smallPrimes", "internal/bytealg.MaxLen"], loops := true, apart := false, laid := [("commodatum/field.smallPrimes", laid_commodatum_field_smallPrimes), ("math/bits.deBruijn32tab", laid_math_bits_deBruijn32tab), ("math/bits.deBruijn64tab", laid_math_bits_deBruijn64tab), ("internal/strconv.uint64pow10", laid_internal_strconv_uint64pow10), ("unicode/utf8.acceptRanges", laid_unicode_utf8_acceptRanges), ("strconv.ErrRange", laid_strconv_ErrRange), ("strconv.ErrSyntax", laid_strconv_ErrSyntax), ("unicode/utf8.first", laid_unicode_utf8_first)] }
def FormulaExprsSaid : Prop := formulaExprsRow.holds Tryz.pinned (OpenSpec.ofChange formulaExprsSpec)

/-- ITS FALSE NEIGHBOUR: 'it returns false'. Refute it at one input. -/
def formulaExprsWrong : ChangeSpec := { name := "formulaExprs", fn := fun _ => fun
  | [d1, d2] => { results := [.lit (.bool false)], args := [d1, d2] }
  | _ => none }
def FormulaExprsWrongFalsely : Prop := formulaExprsRow.holds Tryz.pinned (OpenSpec.ofChange formulaExprsWrong)

/-- 'commodatumlaw05.FormulaEvals': WHATEVER THE INPUT: true; the input reads as it did. -/
def formulaEvalsSpec : ChangeSpec := { name := "formulaEvals", fn := fun _ => fun
  | [d1, d2, d3] => { results := [.lit (.bool true)], args := [d1, d2, d3] }
  | _ => none }
def formulaEvalsRow : OpenClaim := { program := "ytopbfgkfpgnalaagreatdoor", sum := "c046ab6c329791223f3f8f44f6e94555b83154d02f52da3132ae26269d38bd80", func := "commodatum/commodatumlaw05.FormulaEvals", spec := "formulaEvals", inPlace := ["internal/bytealg.IndexByteString", "internal/bytealg.IndexString"], unfollowed := true, recurses := true, named := ["unicode/utf8.first", "unicode/utf8.acceptRanges", "strconv.ErrSyntax", "strconv.ErrRange", "internal/strconv.uint64pow10", "math/bits.deBruijn32tab", "math/bits.deBruijn64tab", "commodatum/field.smallPrimes", "internal/bytealg.MaxLen"], loops := true, apart := false, laid := [("commodatum/field.smallPrimes", laid_commodatum_field_smallPrimes), ("math/bits.deBruijn32tab", laid_math_bits_deBruijn32tab), ("math/bits.deBruijn64tab", laid_math_bits_deBruijn64tab), ("internal/strconv.uint64pow10", laid_internal_strconv_uint64pow10), ("unicode/utf8.acceptRanges", laid_unicode_utf8_acceptRanges), ("strconv.ErrRange", laid_strconv_ErrRange), ("strconv.ErrSyntax", laid_strconv_ErrSyntax), ("unicode/utf8.first", laid_unicode_utf8_first)] }
def FormulaEvalsSaid : Prop := formulaEvalsRow.holds Tryz.pinned (OpenSpec.ofChange formulaEvalsSpec)

/-- ITS FALSE NEIGHBOUR: 'it returns false'. Refute it at one input. -/
def formulaEvalsWrong : ChangeSpec := { name := "formulaEvals", fn := fun _ => fun
  | [d1, d2, d3] => { results := [.lit (.bool false)], args := [d1, d2, d3] }
  | _ => none }
def FormulaEvalsWrongFalsely : Prop := formulaEvalsRow.holds Tryz.pinned (OpenSpec.ofChange formulaEvalsWrong)

/-- 'commodatumlaw05.FormulaPolys': WHATEVER THE INPUT: true; the input reads as it did. -/
def formulaPolysSpec : ChangeSpec := { name := "formulaPolys", fn := fun _ => fun
  | [d1, d2, d3] => { results := [.lit (.bool true)], args := [d1, d2, d3] }
  | _ => none }
def formulaPolysRow : OpenClaim := { program := "ytopbfgkfpgnalaagreatdoor", sum := "c046ab6c329791223f3f8f44f6e94555b83154d02f52da3132ae26269d38bd80", func := "commodatum/commodatumlaw05.FormulaPolys", spec := "formulaPolys", inPlace := ["internal/bytealg.IndexByteString", "internal/bytealg.IndexString"], unfollowed := true, recurses := true, named := ["unicode/utf8.first", "unicode/utf8.acceptRanges", "strconv.ErrSyntax", "strconv.ErrRange", "internal/strconv.uint64pow10", "math/bits.deBruijn32tab", "math/bits.deBruijn64tab", "commodatum/field.smallPrimes", "internal/bytealg.MaxLen"], loops := true, apart := false, laid := [("commodatum/field.smallPrimes", laid_commodatum_field_smallPrimes), ("math/bits.deBruijn32tab", laid_math_bits_deBruijn32tab), ("math/bits.deBruijn64tab", laid_math_bits_deBruijn64tab), ("internal/strconv.uint64pow10", laid_internal_strconv_uint64pow10), ("unicode/utf8.acceptRanges", laid_unicode_utf8_acceptRanges), ("strconv.ErrRange", laid_strconv_ErrRange), ("strconv.ErrSyntax", laid_strconv_ErrSyntax), ("unicode/utf8.first", laid_unicode_utf8_first)] }
def FormulaPolysSaid : Prop := formulaPolysRow.holds Tryz.pinned (OpenSpec.ofChange formulaPolysSpec)

/-- ITS FALSE NEIGHBOUR: 'it returns false'. Refute it at one input. -/
def formulaPolysWrong : ChangeSpec := { name := "formulaPolys", fn := fun _ => fun
  | [d1, d2, d3] => { results := [.lit (.bool false)], args := [d1, d2, d3] }
  | _ => none }
def FormulaPolysWrongFalsely : Prop := formulaPolysRow.holds Tryz.pinned (OpenSpec.ofChange formulaPolysWrong)

/-- 'commodatumlaw05.FormulaExprTexts': WHATEVER THE INPUT: true; the input reads as it did. -/
def formulaExprTextsSpec : ChangeSpec := { name := "formulaExprTexts", fn := fun _ => fun
  | [d1, d2, d3] => { results := [.lit (.bool true)], args := [d1, d2, d3] }
  | _ => none }
def formulaExprTextsRow : OpenClaim := { program := "ytopbfgkfpgnalaagreatdoor", sum := "c046ab6c329791223f3f8f44f6e94555b83154d02f52da3132ae26269d38bd80", func := "commodatum/commodatumlaw05.FormulaExprTexts", spec := "formulaExprTexts", inPlace := ["internal/bytealg.IndexByteString", "internal/bytealg.IndexString"], unfollowed := true, recurses := true, named := ["unicode/utf8.first", "unicode/utf8.acceptRanges", "strconv.ErrSyntax", "strconv.ErrRange", "internal/strconv.uint64pow10", "math/bits.deBruijn32tab", "math/bits.deBruijn64tab", "commodatum/field.smallPrimes", "internal/bytealg.MaxLen"], loops := true, apart := false, laid := [("commodatum/field.smallPrimes", laid_commodatum_field_smallPrimes), ("math/bits.deBruijn32tab", laid_math_bits_deBruijn32tab), ("math/bits.deBruijn64tab", laid_math_bits_deBruijn64tab), ("internal/strconv.uint64pow10", laid_internal_strconv_uint64pow10), ("unicode/utf8.acceptRanges", laid_unicode_utf8_acceptRanges), ("strconv.ErrRange", laid_strconv_ErrRange), ("strconv.ErrSyntax", laid_strconv_ErrSyntax), ("unicode/utf8.first", laid_unicode_utf8_first)] }
def FormulaExprTextsSaid : Prop := formulaExprTextsRow.holds Tryz.pinned (OpenSpec.ofChange formulaExprTextsSpec)

/-- ITS FALSE NEIGHBOUR: 'it returns false'. Refute it at one input. -/
def formulaExprTextsWrong : ChangeSpec := { name := "formulaExprTexts", fn := fun _ => fun
  | [d1, d2, d3] => { results := [.lit (.bool false)], args := [d1, d2, d3] }
  | _ => none }
def FormulaExprTextsWrongFalsely : Prop := formulaExprTextsRow.holds Tryz.pinned (OpenSpec.ofChange formulaExprTextsWrong)

/-- 'commodatumlaw05.FormulaArith': WHATEVER THE INPUT: true; the input reads as it did. -/
def formulaArithSpec : ChangeSpec := { name := "formulaArith", fn := fun _ => fun
  | [d1, d2, d3] => { results := [.lit (.bool true)], args := [d1, d2, d3] }
  | _ => none }
def formulaArithRow : OpenClaim := { program := "ytopbfgkfpgnalaagreatdoor", sum := "c046ab6c329791223f3f8f44f6e94555b83154d02f52da3132ae26269d38bd80", func := "commodatum/commodatumlaw05.FormulaArith", spec := "formulaArith", inPlace := ["internal/bytealg.IndexByteString", "internal/bytealg.IndexString"], unfollowed := true, recurses := true, named := ["unicode/utf8.first", "unicode/utf8.acceptRanges", "strconv.ErrSyntax", "strconv.ErrRange", "internal/strconv.uint64pow10", "math/bits.deBruijn32tab", "math/bits.deBruijn64tab", "commodatum/field.smallPrimes", "internal/bytealg.MaxLen"], loops := true, apart := false, laid := [("commodatum/field.smallPrimes", laid_commodatum_field_smallPrimes), ("math/bits.deBruijn32tab", laid_math_bits_deBruijn32tab), ("math/bits.deBruijn64tab", laid_math_bits_deBruijn64tab), ("internal/strconv.uint64pow10", laid_internal_strconv_uint64pow10), ("unicode/utf8.acceptRanges", laid_unicode_utf8_acceptRanges), ("strconv.ErrRange", laid_strconv_ErrRange), ("strconv.ErrSyntax", laid_strconv_ErrSyntax), ("unicode/utf8.first", laid_unicode_utf8_first)] }
def FormulaArithSaid : Prop := formulaArithRow.holds Tryz.pinned (OpenSpec.ofChange formulaArithSpec)

/-- ITS FALSE NEIGHBOUR: 'it returns false'. Refute it at one input. -/
def formulaArithWrong : ChangeSpec := { name := "formulaArith", fn := fun _ => fun
  | [d1, d2, d3] => { results := [.lit (.bool false)], args := [d1, d2, d3] }
  | _ => none }
def FormulaArithWrongFalsely : Prop := formulaArithRow.holds Tryz.pinned (OpenSpec.ofChange formulaArithWrong)

/-- 'commodatumlaw05.FormulaLaws': WHATEVER THE INPUT: true; the input reads as it did. -/
def formulaLawsSpec : ChangeSpec := { name := "formulaLaws", fn := fun _ => fun
  | [d1, d2, d3] => { results := [.lit (.bool true)], args := [d1, d2, d3] }
  | _ => none }
def formulaLawsRow : OpenClaim := { program := "ytopbfgkfpgnalaagreatdoor", sum := "c046ab6c329791223f3f8f44f6e94555b83154d02f52da3132ae26269d38bd80", func := "commodatum/commodatumlaw05.FormulaLaws", spec := "formulaLaws", inPlace := ["internal/bytealg.IndexByteString", "internal/bytealg.IndexString"], unfollowed := true, recurses := true, named := ["unicode/utf8.first", "unicode/utf8.acceptRanges", "strconv.ErrSyntax", "strconv.ErrRange", "internal/strconv.uint64pow10", "math/bits.deBruijn32tab", "math/bits.deBruijn64tab", "commodatum/field.smallPrimes", "internal/bytealg.MaxLen"], loops := true, apart := false, laid := [("commodatum/field.smallPrimes", laid_commodatum_field_smallPrimes), ("math/bits.deBruijn32tab", laid_math_bits_deBruijn32tab), ("math/bits.deBruijn64tab", laid_math_bits_deBruijn64tab), ("internal/strconv.uint64pow10", laid_internal_strconv_uint64pow10), ("unicode/utf8.acceptRanges", laid_unicode_utf8_acceptRanges), ("strconv.ErrRange", laid_strconv_ErrRange), ("strconv.ErrSyntax", laid_strconv_ErrSyntax), ("unicode/utf8.first", laid_unicode_utf8_first)] }
def FormulaLawsSaid : Prop := formulaLawsRow.holds Tryz.pinned (OpenSpec.ofChange formulaLawsSpec)

/-- ITS FALSE NEIGHBOUR: 'it returns false'. Refute it at one input. -/
def formulaLawsWrong : ChangeSpec := { name := "formulaLaws", fn := fun _ => fun
  | [d1, d2, d3] => { results := [.lit (.bool false)], args := [d1, d2, d3] }
  | _ => none }
def FormulaLawsWrongFalsely : Prop := formulaLawsRow.holds Tryz.pinned (OpenSpec.ofChange formulaLawsWrong)

/-- 'commodatumlaw05.FormulaBack': WHATEVER THE INPUT: true; the input reads as it did. -/
def formulaBackSpec : ChangeSpec := { name := "formulaBack", fn := fun _ => fun
  | [d1, d2, d3, d4] => { results := [.lit (.bool true)], args := [d1, d2, d3, d4] }
  | _ => none }
def formulaBackRow : OpenClaim := { program := "ytopbfgkfpgnalaagreatdoor", sum := "c046ab6c329791223f3f8f44f6e94555b83154d02f52da3132ae26269d38bd80", func := "commodatum/commodatumlaw05.FormulaBack", spec := "formulaBack", inPlace := ["internal/bytealg.IndexByteString", "internal/bytealg.IndexString"], unfollowed := true, recurses := true, named := ["unicode/utf8.first", "unicode/utf8.acceptRanges", "strconv.ErrSyntax", "strconv.ErrRange", "internal/strconv.uint64pow10", "math/bits.deBruijn32tab", "math/bits.deBruijn64tab", "commodatum/field.smallPrimes", "internal/bytealg.MaxLen"], loops := true, apart := false, laid := [("commodatum/field.smallPrimes", laid_commodatum_field_smallPrimes), ("math/bits.deBruijn32tab", laid_math_bits_deBruijn32tab), ("math/bits.deBruijn64tab", laid_math_bits_deBruijn64tab), ("internal/strconv.uint64pow10", laid_internal_strconv_uint64pow10), ("unicode/utf8.acceptRanges", laid_unicode_utf8_acceptRanges), ("strconv.ErrRange", laid_strconv_ErrRange), ("strconv.ErrSyntax", laid_strconv_ErrSyntax), ("unicode/utf8.first", laid_unicode_utf8_first)] }
def FormulaBackSaid : Prop := formulaBackRow.holds Tryz.pinned (OpenSpec.ofChange formulaBackSpec)

/-- ITS FALSE NEIGHBOUR: 'it returns false'. Refute it at one input. -/
def formulaBackWrong : ChangeSpec := { name := "formulaBack", fn := fun _ => fun
  | [d1, d2, d3, d4] => { results := [.lit (.bool false)], args := [d1, d2, d3, d4] }
  | _ => none }
def FormulaBackWrongFalsely : Prop := formulaBackRow.holds Tryz.pinned (OpenSpec.ofChange formulaBackWrong)

/-- 'commodatumlaw05.FormulaValues': WHATEVER THE INPUT: true; the input reads as it did. -/
def formulaValuesSpec : ChangeSpec := { name := "formulaValues", fn := fun _ => fun
  | [d1, d2, d3, d4] => { results := [.lit (.bool true)], args := [d1, d2, d3, d4] }
  | _ => none }
def formulaValuesRow : OpenClaim := { program := "ytopbfgkfpgnalaagreatdoor", sum := "c046ab6c329791223f3f8f44f6e94555b83154d02f52da3132ae26269d38bd80", func := "commodatum/commodatumlaw05.FormulaValues", spec := "formulaValues", inPlace := ["internal/bytealg.IndexByteString", "internal/bytealg.IndexString"], unfollowed := true, recurses := true, named := ["unicode/utf8.first", "unicode/utf8.acceptRanges", "strconv.ErrSyntax", "strconv.ErrRange", "internal/strconv.uint64pow10", "math/bits.deBruijn32tab", "math/bits.deBruijn64tab", "commodatum/field.smallPrimes", "internal/bytealg.MaxLen"], loops := true, apart := false, laid := [("commodatum/field.smallPrimes", laid_commodatum_field_smallPrimes), ("math/bits.deBruijn32tab", laid_math_bits_deBruijn32tab), ("math/bits.deBruijn64tab", laid_math_bits_deBruijn64tab), ("internal/strconv.uint64pow10", laid_internal_strconv_uint64pow10), ("unicode/utf8.acceptRanges", laid_unicode_utf8_acceptRanges), ("strconv.ErrRange", laid_strconv_ErrRange), ("strconv.ErrSyntax", laid_strconv_ErrSyntax), ("unicode/utf8.first", laid_unicode_utf8_first)] }
def FormulaValuesSaid : Prop := formulaValuesRow.holds Tryz.pinned (OpenSpec.ofChange formulaValuesSpec)

/-- ITS FALSE NEIGHBOUR: 'it returns false'. Refute it at one input. -/
def formulaValuesWrong : ChangeSpec := { name := "formulaValues", fn := fun _ => fun
  | [d1, d2, d3, d4] => { results := [.lit (.bool false)], args := [d1, d2, d3, d4] }
  | _ => none }
def FormulaValuesWrongFalsely : Prop := formulaValuesRow.holds Tryz.pinned (OpenSpec.ofChange formulaValuesWrong)

/-- 'commodatumlaw05.FormulaOwn': WHATEVER THE INPUT: true; the input reads as it did. -/
def formulaOwnSpec : ChangeSpec := { name := "formulaOwn", fn := fun _ => fun
  | [d1, d2, d3, d4] => { results := [.lit (.bool true)], args := [d1, d2, d3, d4] }
  | _ => none }
def formulaOwnRow : OpenClaim := { program := "ytopbfgkfpgnalaagreatdoor", sum := "c046ab6c329791223f3f8f44f6e94555b83154d02f52da3132ae26269d38bd80", func := "commodatum/commodatumlaw05.FormulaOwn", spec := "formulaOwn", inPlace := ["internal/bytealg.IndexByteString", "internal/bytealg.IndexString"], unfollowed := true, recurses := true, named := ["unicode/utf8.first", "unicode/utf8.acceptRanges", "strconv.ErrSyntax", "strconv.ErrRange", "internal/strconv.uint64pow10", "math/bits.deBruijn32tab", "math/bits.deBruijn64tab", "commodatum/field.smallPrimes", "internal/bytealg.MaxLen"], loops := true, apart := false, laid := [("commodatum/field.smallPrimes", laid_commodatum_field_smallPrimes), ("math/bits.deBruijn32tab", laid_math_bits_deBruijn32tab), ("math/bits.deBruijn64tab", laid_math_bits_deBruijn64tab), ("internal/strconv.uint64pow10", laid_internal_strconv_uint64pow10), ("unicode/utf8.acceptRanges", laid_unicode_utf8_acceptRanges), ("strconv.ErrRange", laid_strconv_ErrRange), ("strconv.ErrSyntax", laid_strconv_ErrSyntax), ("unicode/utf8.first", laid_unicode_utf8_first)] }
def FormulaOwnSaid : Prop := formulaOwnRow.holds Tryz.pinned (OpenSpec.ofChange formulaOwnSpec)

/-- ITS FALSE NEIGHBOUR: 'it returns false'. Refute it at one input. -/
def formulaOwnWrong : ChangeSpec := { name := "formulaOwn", fn := fun _ => fun
  | [d1, d2, d3, d4] => { results := [.lit (.bool false)], args := [d1, d2, d3, d4] }
  | _ => none }
def FormulaOwnWrongFalsely : Prop := formulaOwnRow.holds Tryz.pinned (OpenSpec.ofChange formulaOwnWrong)

/- THE SECOND FORM. 'bulk': how many values and letters a reading holds, each counted each time it is reached (what is shared counts as often as it is met; a slice's spare places count too). A statement '..UptoSaid' is the law's where the arguments, and the package variables that the reading takes, are together of bulk at most 1048576: NARROWER than '..Said'. Prove '..Said' where nothing that the law and all that it calls make is longer than what came in: it says more and counts as full. Else prove '..UptoSaid'. A law counts once. -/
mutual
def uptoBulk {H : Type} : DataW H → Nat
  | .lit (.string bytes) => bytes.length + 1
  | .lit _ => 1
  | .nil => 1
  | .ptr d => uptoBulk d + 1
  | .slice elems spare => uptoBulkAll elems + uptoBulkAll spare + 1
  | .agg parts => uptoBulkAll parts + 1
  | .iface _ d => uptoBulk d + 1
  | .map entries => uptoBulkEntries entries + 1
  | .held _ => 1
def uptoBulkAll {H : Type} : List (DataW H) → Nat
  | [] => 0
  | d :: r => uptoBulk d + uptoBulkAll r
def uptoBulkEntries {H : Type} : List (Lit × DataW H) → Nat
  | [] => 0
  | x :: r => uptoBulkEntry x + uptoBulkEntries r
def uptoBulkEntry {H : Type} : Lit × DataW H → Nat
  | (.string bytes, d) => bytes.length + uptoBulk d + 1
  | (_, d) => uptoBulk d + 1
 end
def uptoSmall : (H : Type) → List (DataW H) → Bool := fun _ ds => decide (uptoBulkAll ds ≤ 1048576)
def OpenSpec.upto (s : _root_.Go.ChangeSpec) : _root_.Go.OpenSpec := { _root_.Go.OpenSpec.ofChange s with cond := some uptoSmall }

/-- 'commodatumlaw05.FormulaValid', WHERE WHAT IT READS IS OF BULK AT MOST 1048576: true; the input reads as it did. -/
def formulaValidUptoRow : OpenClaim := { program := "ytopbfgkfpgnalaagreatdoor", sum := "c046ab6c329791223f3f8f44f6e94555b83154d02f52da3132ae26269d38bd80", func := "commodatum/commodatumlaw05.FormulaValid", spec := "formulaValid", inPlace := ["internal/bytealg.IndexByteString", "internal/bytealg.IndexString"], unfollowed := true, recurses := true, named := ["unicode/utf8.first", "unicode/utf8.acceptRanges", "strconv.ErrSyntax", "strconv.ErrRange", "internal/strconv.uint64pow10", "math/bits.deBruijn32tab", "math/bits.deBruijn64tab", "commodatum/field.smallPrimes", "internal/bytealg.MaxLen"], loops := true, apart := false, laid := [("commodatum/field.smallPrimes", laid_commodatum_field_smallPrimes), ("math/bits.deBruijn32tab", laid_math_bits_deBruijn32tab), ("math/bits.deBruijn64tab", laid_math_bits_deBruijn64tab), ("internal/strconv.uint64pow10", laid_internal_strconv_uint64pow10), ("unicode/utf8.acceptRanges", laid_unicode_utf8_acceptRanges), ("strconv.ErrRange", laid_strconv_ErrRange), ("strconv.ErrSyntax", laid_strconv_ErrSyntax), ("unicode/utf8.first", laid_unicode_utf8_first)], narrowed := true }
def FormulaValidUptoSaid : Prop := formulaValidUptoRow.holds Tryz.pinned (OpenSpec.upto formulaValidSpec)

/-- 'commodatumlaw05.FormulaTables', WHERE WHAT IT READS IS OF BULK AT MOST 1048576: true; the input reads as it did. -/
def formulaTablesUptoRow : OpenClaim := { program := "ytopbfgkfpgnalaagreatdoor", sum := "c046ab6c329791223f3f8f44f6e94555b83154d02f52da3132ae26269d38bd80", func := "commodatum/commodatumlaw05.FormulaTables", spec := "formulaTables", inPlace := ["internal/bytealg.IndexByteString", "internal/bytealg.IndexString"], unfollowed := true, recurses := true, named := ["unicode/utf8.first", "unicode/utf8.acceptRanges", "strconv.ErrSyntax", "strconv.ErrRange", "internal/strconv.uint64pow10", "math/bits.deBruijn32tab", "math/bits.deBruijn64tab", "commodatum/field.smallPrimes", "internal/bytealg.MaxLen"], loops := true, apart := false, laid := [("commodatum/field.smallPrimes", laid_commodatum_field_smallPrimes), ("math/bits.deBruijn32tab", laid_math_bits_deBruijn32tab), ("math/bits.deBruijn64tab", laid_math_bits_deBruijn64tab), ("internal/strconv.uint64pow10", laid_internal_strconv_uint64pow10), ("unicode/utf8.acceptRanges", laid_unicode_utf8_acceptRanges), ("strconv.ErrRange", laid_strconv_ErrRange), ("strconv.ErrSyntax", laid_strconv_ErrSyntax), ("unicode/utf8.first", laid_unicode_utf8_first)], narrowed := true }
def FormulaTablesUptoSaid : Prop := formulaTablesUptoRow.holds Tryz.pinned (OpenSpec.upto formulaTablesSpec)

/-- 'commodatumlaw05.FormulaTexts', WHERE WHAT IT READS IS OF BULK AT MOST 1048576: true; the input reads as it did. -/
def formulaTextsUptoRow : OpenClaim := { program := "ytopbfgkfpgnalaagreatdoor", sum := "c046ab6c329791223f3f8f44f6e94555b83154d02f52da3132ae26269d38bd80", func := "commodatum/commodatumlaw05.FormulaTexts", spec := "formulaTexts", inPlace := ["internal/bytealg.IndexByteString", "internal/bytealg.IndexString"], unfollowed := true, recurses := true, named := ["unicode/utf8.first", "unicode/utf8.acceptRanges", "strconv.ErrSyntax", "strconv.ErrRange", "internal/strconv.uint64pow10", "math/bits.deBruijn32tab", "math/bits.deBruijn64tab", "commodatum/field.smallPrimes", "internal/bytealg.MaxLen"], loops := true, apart := false, laid := [("commodatum/field.smallPrimes", laid_commodatum_field_smallPrimes), ("math/bits.deBruijn32tab", laid_math_bits_deBruijn32tab), ("math/bits.deBruijn64tab", laid_math_bits_deBruijn64tab), ("internal/strconv.uint64pow10", laid_internal_strconv_uint64pow10), ("unicode/utf8.acceptRanges", laid_unicode_utf8_acceptRanges), ("strconv.ErrRange", laid_strconv_ErrRange), ("strconv.ErrSyntax", laid_strconv_ErrSyntax), ("unicode/utf8.first", laid_unicode_utf8_first)], narrowed := true }
def FormulaTextsUptoSaid : Prop := formulaTextsUptoRow.holds Tryz.pinned (OpenSpec.upto formulaTextsSpec)

/-- 'commodatumlaw05.FormulaExprs', WHERE WHAT IT READS IS OF BULK AT MOST 1048576: true; the input reads as it did. -/
def formulaExprsUptoRow : OpenClaim := { program := "ytopbfgkfpgnalaagreatdoor", sum := "c046ab6c329791223f3f8f44f6e94555b83154d02f52da3132ae26269d38bd80", func := "commodatum/commodatumlaw05.FormulaExprs", spec := "formulaExprs", inPlace := ["internal/bytealg.IndexByteString", "internal/bytealg.IndexString"], unfollowed := true, recurses := true, named := ["unicode/utf8.first", "unicode/utf8.acceptRanges", "strconv.ErrSyntax", "strconv.ErrRange", "internal/strconv.uint64pow10", "math/bits.deBruijn32tab", "math/bits.deBruijn64tab", "commodatum/field.smallPrimes", "internal/bytealg.MaxLen"], loops := true, apart := false, laid := [("commodatum/field.smallPrimes", laid_commodatum_field_smallPrimes), ("math/bits.deBruijn32tab", laid_math_bits_deBruijn32tab), ("math/bits.deBruijn64tab", laid_math_bits_deBruijn64tab), ("internal/strconv.uint64pow10", laid_internal_strconv_uint64pow10), ("unicode/utf8.acceptRanges", laid_unicode_utf8_acceptRanges), ("strconv.ErrRange", laid_strconv_ErrRange), ("strconv.ErrSyntax", laid_strconv_ErrSyntax), ("unicode/utf8.first", laid_unicode_utf8_first)], narrowed := true }
def FormulaExprsUptoSaid : Prop := formulaExprsUptoRow.holds Tryz.pinned (OpenSpec.upto formulaExprsSpec)

/-- 'commodatumlaw05.FormulaEvals', WHERE WHAT IT READS IS OF BULK AT MOST 1048576: true; the input reads as it did. -/
def formulaEvalsUptoRow : OpenClaim := { program := "ytopbfgkfpgnalaagreatdoor", sum := "c046ab6c329791223f3f8f44f6e94555b83154d02f52da3132ae26269d38bd80", func := "commodatum/commodatumlaw05.FormulaEvals", spec := "formulaEvals", inPlace := ["internal/bytealg.IndexByteString", "internal/bytealg.IndexString"], unfollowed := true, recurses := true, named := ["unicode/utf8.first", "unicode/utf8.acceptRanges", "strconv.ErrSyntax", "strconv.ErrRange", "internal/strconv.uint64pow10", "math/bits.deBruijn32tab", "math/bits.deBruijn64tab", "commodatum/field.smallPrimes", "internal/bytealg.MaxLen"], loops := true, apart := false, laid := [("commodatum/field.smallPrimes", laid_commodatum_field_smallPrimes), ("math/bits.deBruijn32tab", laid_math_bits_deBruijn32tab), ("math/bits.deBruijn64tab", laid_math_bits_deBruijn64tab), ("internal/strconv.uint64pow10", laid_internal_strconv_uint64pow10), ("unicode/utf8.acceptRanges", laid_unicode_utf8_acceptRanges), ("strconv.ErrRange", laid_strconv_ErrRange), ("strconv.ErrSyntax", laid_strconv_ErrSyntax), ("unicode/utf8.first", laid_unicode_utf8_first)], narrowed := true }
def FormulaEvalsUptoSaid : Prop := formulaEvalsUptoRow.holds Tryz.pinned (OpenSpec.upto formulaEvalsSpec)

/-- 'commodatumlaw05.FormulaPolys', WHERE WHAT IT READS IS OF BULK AT MOST 1048576: true; the input reads as it did. -/
def formulaPolysUptoRow : OpenClaim := { program := "ytopbfgkfpgnalaagreatdoor", sum := "c046ab6c329791223f3f8f44f6e94555b83154d02f52da3132ae26269d38bd80", func := "commodatum/commodatumlaw05.FormulaPolys", spec := "formulaPolys", inPlace := ["internal/bytealg.IndexByteString", "internal/bytealg.IndexString"], unfollowed := true, recurses := true, named := ["unicode/utf8.first", "unicode/utf8.acceptRanges", "strconv.ErrSyntax", "strconv.ErrRange", "internal/strconv.uint64pow10", "math/bits.deBruijn32tab", "math/bits.deBruijn64tab", "commodatum/field.smallPrimes", "internal/bytealg.MaxLen"], loops := true, apart := false, laid := [("commodatum/field.smallPrimes", laid_commodatum_field_smallPrimes), ("math/bits.deBruijn32tab", laid_math_bits_deBruijn32tab), ("math/bits.deBruijn64tab", laid_math_bits_deBruijn64tab), ("internal/strconv.uint64pow10", laid_internal_strconv_uint64pow10), ("unicode/utf8.acceptRanges", laid_unicode_utf8_acceptRanges), ("strconv.ErrRange", laid_strconv_ErrRange), ("strconv.ErrSyntax", laid_strconv_ErrSyntax), ("unicode/utf8.first", laid_unicode_utf8_first)], narrowed := true }
def FormulaPolysUptoSaid : Prop := formulaPolysUptoRow.holds Tryz.pinned (OpenSpec.upto formulaPolysSpec)

/-- 'commodatumlaw05.FormulaExprTexts', WHERE WHAT IT READS IS OF BULK AT MOST 1048576: true; the input reads as it did. -/
def formulaExprTextsUptoRow : OpenClaim := { program := "ytopbfgkfpgnalaagreatdoor", sum := "c046ab6c329791223f3f8f44f6e94555b83154d02f52da3132ae26269d38bd80", func := "commodatum/commodatumlaw05.FormulaExprTexts", spec := "formulaExprTexts", inPlace := ["internal/bytealg.IndexByteString", "internal/bytealg.IndexString"], unfollowed := true, recurses := true, named := ["unicode/utf8.first", "unicode/utf8.acceptRanges", "strconv.ErrSyntax", "strconv.ErrRange", "internal/strconv.uint64pow10", "math/bits.deBruijn32tab", "math/bits.deBruijn64tab", "commodatum/field.smallPrimes", "internal/bytealg.MaxLen"], loops := true, apart := false, laid := [("commodatum/field.smallPrimes", laid_commodatum_field_smallPrimes), ("math/bits.deBruijn32tab", laid_math_bits_deBruijn32tab), ("math/bits.deBruijn64tab", laid_math_bits_deBruijn64tab), ("internal/strconv.uint64pow10", laid_internal_strconv_uint64pow10), ("unicode/utf8.acceptRanges", laid_unicode_utf8_acceptRanges), ("strconv.ErrRange", laid_strconv_ErrRange), ("strconv.ErrSyntax", laid_strconv_ErrSyntax), ("unicode/utf8.first", laid_unicode_utf8_first)], narrowed := true }
def FormulaExprTextsUptoSaid : Prop := formulaExprTextsUptoRow.holds Tryz.pinned (OpenSpec.upto formulaExprTextsSpec)

/-- 'commodatumlaw05.FormulaArith', WHERE WHAT IT READS IS OF BULK AT MOST 1048576: true; the input reads as it did. -/
def formulaArithUptoRow : OpenClaim := { program := "ytopbfgkfpgnalaagreatdoor", sum := "c046ab6c329791223f3f8f44f6e94555b83154d02f52da3132ae26269d38bd80", func := "commodatum/commodatumlaw05.FormulaArith", spec := "formulaArith", inPlace := ["internal/bytealg.IndexByteString", "internal/bytealg.IndexString"], unfollowed := true, recurses := true, named := ["unicode/utf8.first", "unicode/utf8.acceptRanges", "strconv.ErrSyntax", "strconv.ErrRange", "internal/strconv.uint64pow10", "math/bits.deBruijn32tab", "math/bits.deBruijn64tab", "commodatum/field.smallPrimes", "internal/bytealg.MaxLen"], loops := true, apart := false, laid := [("commodatum/field.smallPrimes", laid_commodatum_field_smallPrimes), ("math/bits.deBruijn32tab", laid_math_bits_deBruijn32tab), ("math/bits.deBruijn64tab", laid_math_bits_deBruijn64tab), ("internal/strconv.uint64pow10", laid_internal_strconv_uint64pow10), ("unicode/utf8.acceptRanges", laid_unicode_utf8_acceptRanges), ("strconv.ErrRange", laid_strconv_ErrRange), ("strconv.ErrSyntax", laid_strconv_ErrSyntax), ("unicode/utf8.first", laid_unicode_utf8_first)], narrowed := true }
def FormulaArithUptoSaid : Prop := formulaArithUptoRow.holds Tryz.pinned (OpenSpec.upto formulaArithSpec)

/-- 'commodatumlaw05.FormulaLaws', WHERE WHAT IT READS IS OF BULK AT MOST 1048576: true; the input reads as it did. -/
def formulaLawsUptoRow : OpenClaim := { program := "ytopbfgkfpgnalaagreatdoor", sum := "c046ab6c329791223f3f8f44f6e94555b83154d02f52da3132ae26269d38bd80", func := "commodatum/commodatumlaw05.FormulaLaws", spec := "formulaLaws", inPlace := ["internal/bytealg.IndexByteString", "internal/bytealg.IndexString"], unfollowed := true, recurses := true, named := ["unicode/utf8.first", "unicode/utf8.acceptRanges", "strconv.ErrSyntax", "strconv.ErrRange", "internal/strconv.uint64pow10", "math/bits.deBruijn32tab", "math/bits.deBruijn64tab", "commodatum/field.smallPrimes", "internal/bytealg.MaxLen"], loops := true, apart := false, laid := [("commodatum/field.smallPrimes", laid_commodatum_field_smallPrimes), ("math/bits.deBruijn32tab", laid_math_bits_deBruijn32tab), ("math/bits.deBruijn64tab", laid_math_bits_deBruijn64tab), ("internal/strconv.uint64pow10", laid_internal_strconv_uint64pow10), ("unicode/utf8.acceptRanges", laid_unicode_utf8_acceptRanges), ("strconv.ErrRange", laid_strconv_ErrRange), ("strconv.ErrSyntax", laid_strconv_ErrSyntax), ("unicode/utf8.first", laid_unicode_utf8_first)], narrowed := true }
def FormulaLawsUptoSaid : Prop := formulaLawsUptoRow.holds Tryz.pinned (OpenSpec.upto formulaLawsSpec)

/-- 'commodatumlaw05.FormulaBack', WHERE WHAT IT READS IS OF BULK AT MOST 1048576: true; the input reads as it did. -/
def formulaBackUptoRow : OpenClaim := { program := "ytopbfgkfpgnalaagreatdoor", sum := "c046ab6c329791223f3f8f44f6e94555b83154d02f52da3132ae26269d38bd80", func := "commodatum/commodatumlaw05.FormulaBack", spec := "formulaBack", inPlace := ["internal/bytealg.IndexByteString", "internal/bytealg.IndexString"], unfollowed := true, recurses := true, named := ["unicode/utf8.first", "unicode/utf8.acceptRanges", "strconv.ErrSyntax", "strconv.ErrRange", "internal/strconv.uint64pow10", "math/bits.deBruijn32tab", "math/bits.deBruijn64tab", "commodatum/field.smallPrimes", "internal/bytealg.MaxLen"], loops := true, apart := false, laid := [("commodatum/field.smallPrimes", laid_commodatum_field_smallPrimes), ("math/bits.deBruijn32tab", laid_math_bits_deBruijn32tab), ("math/bits.deBruijn64tab", laid_math_bits_deBruijn64tab), ("internal/strconv.uint64pow10", laid_internal_strconv_uint64pow10), ("unicode/utf8.acceptRanges", laid_unicode_utf8_acceptRanges), ("strconv.ErrRange", laid_strconv_ErrRange), ("strconv.ErrSyntax", laid_strconv_ErrSyntax), ("unicode/utf8.first", laid_unicode_utf8_first)], narrowed := true }
def FormulaBackUptoSaid : Prop := formulaBackUptoRow.holds Tryz.pinned (OpenSpec.upto formulaBackSpec)

/-- 'commodatumlaw05.FormulaValues', WHERE WHAT IT READS IS OF BULK AT MOST 1048576: true; the input reads as it did. -/
def formulaValuesUptoRow : OpenClaim := { program := "ytopbfgkfpgnalaagreatdoor", sum := "c046ab6c329791223f3f8f44f6e94555b83154d02f52da3132ae26269d38bd80", func := "commodatum/commodatumlaw05.FormulaValues", spec := "formulaValues", inPlace := ["internal/bytealg.IndexByteString", "internal/bytealg.IndexString"], unfollowed := true, recurses := true, named := ["unicode/utf8.first", "unicode/utf8.acceptRanges", "strconv.ErrSyntax", "strconv.ErrRange", "internal/strconv.uint64pow10", "math/bits.deBruijn32tab", "math/bits.deBruijn64tab", "commodatum/field.smallPrimes", "internal/bytealg.MaxLen"], loops := true, apart := false, laid := [("commodatum/field.smallPrimes", laid_commodatum_field_smallPrimes), ("math/bits.deBruijn32tab", laid_math_bits_deBruijn32tab), ("math/bits.deBruijn64tab", laid_math_bits_deBruijn64tab), ("internal/strconv.uint64pow10", laid_internal_strconv_uint64pow10), ("unicode/utf8.acceptRanges", laid_unicode_utf8_acceptRanges), ("strconv.ErrRange", laid_strconv_ErrRange), ("strconv.ErrSyntax", laid_strconv_ErrSyntax), ("unicode/utf8.first", laid_unicode_utf8_first)], narrowed := true }
def FormulaValuesUptoSaid : Prop := formulaValuesUptoRow.holds Tryz.pinned (OpenSpec.upto formulaValuesSpec)

/-- 'commodatumlaw05.FormulaOwn', WHERE WHAT IT READS IS OF BULK AT MOST 1048576: true; the input reads as it did. -/
def formulaOwnUptoRow : OpenClaim := { program := "ytopbfgkfpgnalaagreatdoor", sum := "c046ab6c329791223f3f8f44f6e94555b83154d02f52da3132ae26269d38bd80", func := "commodatum/commodatumlaw05.FormulaOwn", spec := "formulaOwn", inPlace := ["internal/bytealg.IndexByteString", "internal/bytealg.IndexString"], unfollowed := true, recurses := true, named := ["unicode/utf8.first", "unicode/utf8.acceptRanges", "strconv.ErrSyntax", "strconv.ErrRange", "internal/strconv.uint64pow10", "math/bits.deBruijn32tab", "math/bits.deBruijn64tab", "commodatum/field.smallPrimes", "internal/bytealg.MaxLen"], loops := true, apart := false, laid := [("commodatum/field.smallPrimes", laid_commodatum_field_smallPrimes), ("math/bits.deBruijn32tab", laid_math_bits_deBruijn32tab), ("math/bits.deBruijn64tab", laid_math_bits_deBruijn64tab), ("internal/strconv.uint64pow10", laid_internal_strconv_uint64pow10), ("unicode/utf8.acceptRanges", laid_unicode_utf8_acceptRanges), ("strconv.ErrRange", laid_strconv_ErrRange), ("strconv.ErrSyntax", laid_strconv_ErrSyntax), ("unicode/utf8.first", laid_unicode_utf8_first)], narrowed := true }
def FormulaOwnUptoSaid : Prop := formulaOwnUptoRow.holds Tryz.pinned (OpenSpec.upto formulaOwnSpec)

end Rows
end Go.Proofs.YtopbfgkfpgnalaaGreatDoor
