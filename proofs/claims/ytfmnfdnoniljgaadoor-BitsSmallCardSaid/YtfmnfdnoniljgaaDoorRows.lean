/-
  NARROWER THAN 'FOR EVERY INPUT', by the rows' own cells (each row's printed sentence says how): BitsSpans: laid · BitsMembers: laid · BitsSolves: laid · BitsMatrices: laid · BitsWeights: laid · BitsSmall: laid · BitsOrthogonal: laid · BitsReduced: laid · BitsSolved: laid · BitsInverse: laid · BitsMeet: laid · BitsDual: laid · BitsLight: laid.
  DERIVED. THE GIVEN ROWS OF THIS SEAT. 13 by the template 'for every input the law returns true; each argument reads behind the call as it read before'; 0 by the template 'total and deterministic' (their statements: YtfmnfdnoniljgaaDoorTotals.lean).
  GIVEN WITH THE SEED: the statements are not yours to turn. If you find one false, say at which input.
  Laid BY PROGRAM, IN A SANDBOX (cutbox-rows.mjs): the forced cells as the released guide's own fill.sh prints them over the translation d3c2e49ae4cfbc25… (all of the seat's roots in one cut). By AI agents, Wed Nov 11 2026. No macro, syntax, notation, axiom, sorry.
-/
import Derived.Test.YtfmnfdnoniljgaaDoorChecked
import GoSem.Claim
import GoSem.ClaimJoined
import GoSem.ClaimMapViews
import Derived.JoinedTies
import Derived.KernelRfl
namespace Go.Proofs.YtfmnfdnoniljgaaDoor
/- THE CELL 'sum', in the pinned program and in every row, IS THE sha256 OF THE DUMP (.gsa) THAT YtfmnfdnoniljgaaDoorProg.lean LOADS. Nothing in Lean hashes anything: it is a label: what it is worth is what the hold of that sum in a sandbox is worth. -/
noncomputable def Tryd.pinned : Pinned := { name := "ytfmnfdnoniljgaadoor", sum := "d3c2e49ae4cfbc2558bfa538c83ea202866737eb4c81d9e7ec87e82ccfdfb6c4", checked := Tryd.checked }
namespace Rows
def none {H : Type} : Left H := { results := [], args := [] }

/- WHAT THE LISTED PACKAGE-LEVEL VARIABLES READ AS WHEN THE CALL BEGINS. Each datum BY PROGRAM (the guide's laid-datum.mjs) off the statement by which the dump's own 'gosem.cut.vars' lays the variable. In a bare row this is a premise. The card (YtfmnfdnoniljgaaDoorCards.lean) ties it to the program's text. -/
def laid_math_bits_deBruijn32tab {H : Type} : DataW H := .agg [.lit (.int .u8 0), .lit (.int .u8 1), .lit (.int .u8 28), .lit (.int .u8 2), .lit (.int .u8 29), .lit (.int .u8 14), .lit (.int .u8 24), .lit (.int .u8 3), .lit (.int .u8 30), .lit (.int .u8 22), .lit (.int .u8 20), .lit (.int .u8 15), .lit (.int .u8 25), .lit (.int .u8 17), .lit (.int .u8 4), .lit (.int .u8 8), .lit (.int .u8 31), .lit (.int .u8 27), .lit (.int .u8 13), .lit (.int .u8 23), .lit (.int .u8 21), .lit (.int .u8 19), .lit (.int .u8 16), .lit (.int .u8 7), .lit (.int .u8 26), .lit (.int .u8 12), .lit (.int .u8 18), .lit (.int .u8 6), .lit (.int .u8 11), .lit (.int .u8 5), .lit (.int .u8 10), .lit (.int .u8 9)]
def laid_math_bits_deBruijn64tab {H : Type} : DataW H := .agg [.lit (.int .u8 0), .lit (.int .u8 1), .lit (.int .u8 56), .lit (.int .u8 2), .lit (.int .u8 57), .lit (.int .u8 49), .lit (.int .u8 28), .lit (.int .u8 3), .lit (.int .u8 61), .lit (.int .u8 58), .lit (.int .u8 42), .lit (.int .u8 50), .lit (.int .u8 38), .lit (.int .u8 29), .lit (.int .u8 17), .lit (.int .u8 4), .lit (.int .u8 62), .lit (.int .u8 47), .lit (.int .u8 59), .lit (.int .u8 36), .lit (.int .u8 45), .lit (.int .u8 43), .lit (.int .u8 51), .lit (.int .u8 22), .lit (.int .u8 53), .lit (.int .u8 39), .lit (.int .u8 33), .lit (.int .u8 30), .lit (.int .u8 24), .lit (.int .u8 18), .lit (.int .u8 12), .lit (.int .u8 5), .lit (.int .u8 63), .lit (.int .u8 55), .lit (.int .u8 48), .lit (.int .u8 27), .lit (.int .u8 60), .lit (.int .u8 41), .lit (.int .u8 37), .lit (.int .u8 16), .lit (.int .u8 46), .lit (.int .u8 35), .lit (.int .u8 44), .lit (.int .u8 21), .lit (.int .u8 52), .lit (.int .u8 32), .lit (.int .u8 23), .lit (.int .u8 11), .lit (.int .u8 54), .lit (.int .u8 26), .lit (.int .u8 40), .lit (.int .u8 15), .lit (.int .u8 34), .lit (.int .u8 20), .lit (.int .u8 31), .lit (.int .u8 10), .lit (.int .u8 25), .lit (.int .u8 14), .lit (.int .u8 19), .lit (.int .u8 9), .lit (.int .u8 13), .lit (.int .u8 8), .lit (.int .u8 7), .lit (.int .u8 6)]

/-- 'spoondriftlaw02.BitsSpans': WHATEVER THE INPUT: true; the input reads as it did. -/
def bitsSpansSpec : ChangeSpec := { name := "bitsSpans", fn := fun _ => fun
  | [d1, d2] => { results := [.lit (.bool true)], args := [d1, d2] }
  | _ => none }
def bitsSpansRow : OpenClaim := { program := "ytfmnfdnoniljgaadoor", sum := "d3c2e49ae4cfbc2558bfa538c83ea202866737eb4c81d9e7ec87e82ccfdfb6c4", func := "spoondrift/spoondriftlaw02.BitsSpans", spec := "bitsSpans", unfollowed := true, recurses := true, named := ["math/bits.deBruijn32tab", "math/bits.deBruijn64tab"], apart := false, laid := [("math/bits.deBruijn32tab", laid_math_bits_deBruijn32tab), ("math/bits.deBruijn64tab", laid_math_bits_deBruijn64tab)] }
def BitsSpansSaid : Prop := bitsSpansRow.holds Tryd.pinned (OpenSpec.ofChange bitsSpansSpec)

/-- ITS FALSE NEIGHBOUR: 'it returns false'. Refute it at one input. -/
def bitsSpansWrong : ChangeSpec := { name := "bitsSpans", fn := fun _ => fun
  | [d1, d2] => { results := [.lit (.bool false)], args := [d1, d2] }
  | _ => none }
def BitsSpansWrongFalsely : Prop := bitsSpansRow.holds Tryd.pinned (OpenSpec.ofChange bitsSpansWrong)

/-- 'spoondriftlaw02.BitsMembers': WHATEVER THE INPUT: true; the input reads as it did. -/
def bitsMembersSpec : ChangeSpec := { name := "bitsMembers", fn := fun _ => fun
  | [d1, d2, d3, d4] => { results := [.lit (.bool true)], args := [d1, d2, d3, d4] }
  | _ => none }
def bitsMembersRow : OpenClaim := { program := "ytfmnfdnoniljgaadoor", sum := "d3c2e49ae4cfbc2558bfa538c83ea202866737eb4c81d9e7ec87e82ccfdfb6c4", func := "spoondrift/spoondriftlaw02.BitsMembers", spec := "bitsMembers", unfollowed := true, recurses := true, named := ["math/bits.deBruijn32tab", "math/bits.deBruijn64tab"], apart := false, laid := [("math/bits.deBruijn32tab", laid_math_bits_deBruijn32tab), ("math/bits.deBruijn64tab", laid_math_bits_deBruijn64tab)] }
def BitsMembersSaid : Prop := bitsMembersRow.holds Tryd.pinned (OpenSpec.ofChange bitsMembersSpec)

/-- ITS FALSE NEIGHBOUR: 'it returns false'. Refute it at one input. -/
def bitsMembersWrong : ChangeSpec := { name := "bitsMembers", fn := fun _ => fun
  | [d1, d2, d3, d4] => { results := [.lit (.bool false)], args := [d1, d2, d3, d4] }
  | _ => none }
def BitsMembersWrongFalsely : Prop := bitsMembersRow.holds Tryd.pinned (OpenSpec.ofChange bitsMembersWrong)

/-- 'spoondriftlaw02.BitsSolves': WHATEVER THE INPUT: true; the input reads as it did. -/
def bitsSolvesSpec : ChangeSpec := { name := "bitsSolves", fn := fun _ => fun
  | [d1, d2, d3, d4] => { results := [.lit (.bool true)], args := [d1, d2, d3, d4] }
  | _ => none }
def bitsSolvesRow : OpenClaim := { program := "ytfmnfdnoniljgaadoor", sum := "d3c2e49ae4cfbc2558bfa538c83ea202866737eb4c81d9e7ec87e82ccfdfb6c4", func := "spoondrift/spoondriftlaw02.BitsSolves", spec := "bitsSolves", unfollowed := true, recurses := true, named := ["math/bits.deBruijn32tab", "math/bits.deBruijn64tab"], apart := false, laid := [("math/bits.deBruijn32tab", laid_math_bits_deBruijn32tab), ("math/bits.deBruijn64tab", laid_math_bits_deBruijn64tab)] }
def BitsSolvesSaid : Prop := bitsSolvesRow.holds Tryd.pinned (OpenSpec.ofChange bitsSolvesSpec)

/-- ITS FALSE NEIGHBOUR: 'it returns false'. Refute it at one input. -/
def bitsSolvesWrong : ChangeSpec := { name := "bitsSolves", fn := fun _ => fun
  | [d1, d2, d3, d4] => { results := [.lit (.bool false)], args := [d1, d2, d3, d4] }
  | _ => none }
def BitsSolvesWrongFalsely : Prop := bitsSolvesRow.holds Tryd.pinned (OpenSpec.ofChange bitsSolvesWrong)

/-- 'spoondriftlaw02.BitsMatrices': WHATEVER THE INPUT: true; the input reads as it did. -/
def bitsMatricesSpec : ChangeSpec := { name := "bitsMatrices", fn := fun _ => fun
  | [d1, d2, d3, d4] => { results := [.lit (.bool true)], args := [d1, d2, d3, d4] }
  | _ => none }
def bitsMatricesRow : OpenClaim := { program := "ytfmnfdnoniljgaadoor", sum := "d3c2e49ae4cfbc2558bfa538c83ea202866737eb4c81d9e7ec87e82ccfdfb6c4", func := "spoondrift/spoondriftlaw02.BitsMatrices", spec := "bitsMatrices", unfollowed := true, recurses := true, named := ["math/bits.deBruijn32tab", "math/bits.deBruijn64tab"], apart := false, laid := [("math/bits.deBruijn32tab", laid_math_bits_deBruijn32tab), ("math/bits.deBruijn64tab", laid_math_bits_deBruijn64tab)] }
def BitsMatricesSaid : Prop := bitsMatricesRow.holds Tryd.pinned (OpenSpec.ofChange bitsMatricesSpec)

/-- ITS FALSE NEIGHBOUR: 'it returns false'. Refute it at one input. -/
def bitsMatricesWrong : ChangeSpec := { name := "bitsMatrices", fn := fun _ => fun
  | [d1, d2, d3, d4] => { results := [.lit (.bool false)], args := [d1, d2, d3, d4] }
  | _ => none }
def BitsMatricesWrongFalsely : Prop := bitsMatricesRow.holds Tryd.pinned (OpenSpec.ofChange bitsMatricesWrong)

/-- 'spoondriftlaw02.BitsWeights': WHATEVER THE INPUT: true; the input reads as it did. -/
def bitsWeightsSpec : ChangeSpec := { name := "bitsWeights", fn := fun _ => fun
  | [d1, d2, d3, d4] => { results := [.lit (.bool true)], args := [d1, d2, d3, d4] }
  | _ => none }
def bitsWeightsRow : OpenClaim := { program := "ytfmnfdnoniljgaadoor", sum := "d3c2e49ae4cfbc2558bfa538c83ea202866737eb4c81d9e7ec87e82ccfdfb6c4", func := "spoondrift/spoondriftlaw02.BitsWeights", spec := "bitsWeights", unfollowed := true, recurses := true, named := ["math/bits.deBruijn32tab", "math/bits.deBruijn64tab"], apart := false, laid := [("math/bits.deBruijn32tab", laid_math_bits_deBruijn32tab), ("math/bits.deBruijn64tab", laid_math_bits_deBruijn64tab)] }
def BitsWeightsSaid : Prop := bitsWeightsRow.holds Tryd.pinned (OpenSpec.ofChange bitsWeightsSpec)

/-- ITS FALSE NEIGHBOUR: 'it returns false'. Refute it at one input. -/
def bitsWeightsWrong : ChangeSpec := { name := "bitsWeights", fn := fun _ => fun
  | [d1, d2, d3, d4] => { results := [.lit (.bool false)], args := [d1, d2, d3, d4] }
  | _ => none }
def BitsWeightsWrongFalsely : Prop := bitsWeightsRow.holds Tryd.pinned (OpenSpec.ofChange bitsWeightsWrong)

/-- 'spoondriftlaw02.BitsSmall': WHATEVER THE INPUT: true; the input reads as it did. -/
def bitsSmallSpec : ChangeSpec := { name := "bitsSmall", fn := fun _ => fun
  | [] => { results := [.lit (.bool true)], args := [] }
  | _ => none }
def bitsSmallRow : OpenClaim := { program := "ytfmnfdnoniljgaadoor", sum := "d3c2e49ae4cfbc2558bfa538c83ea202866737eb4c81d9e7ec87e82ccfdfb6c4", func := "spoondrift/spoondriftlaw02.BitsSmall", spec := "bitsSmall", unfollowed := true, recurses := true, named := ["math/bits.deBruijn32tab", "math/bits.deBruijn64tab"], apart := false, laid := [("math/bits.deBruijn32tab", laid_math_bits_deBruijn32tab), ("math/bits.deBruijn64tab", laid_math_bits_deBruijn64tab)] }
def BitsSmallSaid : Prop := bitsSmallRow.holds Tryd.pinned (OpenSpec.ofChange bitsSmallSpec)

/-- ITS FALSE NEIGHBOUR: 'it returns false'. Refute it at one input. -/
def bitsSmallWrong : ChangeSpec := { name := "bitsSmall", fn := fun _ => fun
  | [] => { results := [.lit (.bool false)], args := [] }
  | _ => none }
def BitsSmallWrongFalsely : Prop := bitsSmallRow.holds Tryd.pinned (OpenSpec.ofChange bitsSmallWrong)

/-- 'spoondriftlaw02.BitsOrthogonal': WHATEVER THE INPUT: true; the input reads as it did. -/
def bitsOrthogonalSpec : ChangeSpec := { name := "bitsOrthogonal", fn := fun _ => fun
  | [d1, d2] => { results := [.lit (.bool true)], args := [d1, d2] }
  | _ => none }
def bitsOrthogonalRow : OpenClaim := { program := "ytfmnfdnoniljgaadoor", sum := "d3c2e49ae4cfbc2558bfa538c83ea202866737eb4c81d9e7ec87e82ccfdfb6c4", func := "spoondrift/spoondriftlaw02.BitsOrthogonal", spec := "bitsOrthogonal", unfollowed := true, recurses := true, named := ["math/bits.deBruijn32tab", "math/bits.deBruijn64tab"], apart := false, laid := [("math/bits.deBruijn32tab", laid_math_bits_deBruijn32tab), ("math/bits.deBruijn64tab", laid_math_bits_deBruijn64tab)] }
def BitsOrthogonalSaid : Prop := bitsOrthogonalRow.holds Tryd.pinned (OpenSpec.ofChange bitsOrthogonalSpec)

/-- ITS FALSE NEIGHBOUR: 'it returns false'. Refute it at one input. -/
def bitsOrthogonalWrong : ChangeSpec := { name := "bitsOrthogonal", fn := fun _ => fun
  | [d1, d2] => { results := [.lit (.bool false)], args := [d1, d2] }
  | _ => none }
def BitsOrthogonalWrongFalsely : Prop := bitsOrthogonalRow.holds Tryd.pinned (OpenSpec.ofChange bitsOrthogonalWrong)

/-- 'spoondriftlaw02.BitsReduced': WHATEVER THE INPUT: true; the input reads as it did. -/
def bitsReducedSpec : ChangeSpec := { name := "bitsReduced", fn := fun _ => fun
  | [d1, d2, d3, d4] => { results := [.lit (.bool true)], args := [d1, d2, d3, d4] }
  | _ => none }
def bitsReducedRow : OpenClaim := { program := "ytfmnfdnoniljgaadoor", sum := "d3c2e49ae4cfbc2558bfa538c83ea202866737eb4c81d9e7ec87e82ccfdfb6c4", func := "spoondrift/spoondriftlaw02.BitsReduced", spec := "bitsReduced", unfollowed := true, recurses := true, named := ["math/bits.deBruijn32tab", "math/bits.deBruijn64tab"], apart := false, laid := [("math/bits.deBruijn32tab", laid_math_bits_deBruijn32tab), ("math/bits.deBruijn64tab", laid_math_bits_deBruijn64tab)] }
def BitsReducedSaid : Prop := bitsReducedRow.holds Tryd.pinned (OpenSpec.ofChange bitsReducedSpec)

/-- ITS FALSE NEIGHBOUR: 'it returns false'. Refute it at one input. -/
def bitsReducedWrong : ChangeSpec := { name := "bitsReduced", fn := fun _ => fun
  | [d1, d2, d3, d4] => { results := [.lit (.bool false)], args := [d1, d2, d3, d4] }
  | _ => none }
def BitsReducedWrongFalsely : Prop := bitsReducedRow.holds Tryd.pinned (OpenSpec.ofChange bitsReducedWrong)

/-- 'spoondriftlaw02.BitsSolved': WHATEVER THE INPUT: true; the input reads as it did. -/
def bitsSolvedSpec : ChangeSpec := { name := "bitsSolved", fn := fun _ => fun
  | [d1, d2, d3] => { results := [.lit (.bool true)], args := [d1, d2, d3] }
  | _ => none }
def bitsSolvedRow : OpenClaim := { program := "ytfmnfdnoniljgaadoor", sum := "d3c2e49ae4cfbc2558bfa538c83ea202866737eb4c81d9e7ec87e82ccfdfb6c4", func := "spoondrift/spoondriftlaw02.BitsSolved", spec := "bitsSolved", unfollowed := true, recurses := true, named := ["math/bits.deBruijn32tab", "math/bits.deBruijn64tab"], apart := false, laid := [("math/bits.deBruijn32tab", laid_math_bits_deBruijn32tab), ("math/bits.deBruijn64tab", laid_math_bits_deBruijn64tab)] }
def BitsSolvedSaid : Prop := bitsSolvedRow.holds Tryd.pinned (OpenSpec.ofChange bitsSolvedSpec)

/-- ITS FALSE NEIGHBOUR: 'it returns false'. Refute it at one input. -/
def bitsSolvedWrong : ChangeSpec := { name := "bitsSolved", fn := fun _ => fun
  | [d1, d2, d3] => { results := [.lit (.bool false)], args := [d1, d2, d3] }
  | _ => none }
def BitsSolvedWrongFalsely : Prop := bitsSolvedRow.holds Tryd.pinned (OpenSpec.ofChange bitsSolvedWrong)

/-- 'spoondriftlaw02.BitsInverse': WHATEVER THE INPUT: true; the input reads as it did. -/
def bitsInverseSpec : ChangeSpec := { name := "bitsInverse", fn := fun _ => fun
  | [d1, d2, d3] => { results := [.lit (.bool true)], args := [d1, d2, d3] }
  | _ => none }
def bitsInverseRow : OpenClaim := { program := "ytfmnfdnoniljgaadoor", sum := "d3c2e49ae4cfbc2558bfa538c83ea202866737eb4c81d9e7ec87e82ccfdfb6c4", func := "spoondrift/spoondriftlaw02.BitsInverse", spec := "bitsInverse", unfollowed := true, recurses := true, named := ["math/bits.deBruijn32tab", "math/bits.deBruijn64tab"], apart := false, laid := [("math/bits.deBruijn32tab", laid_math_bits_deBruijn32tab), ("math/bits.deBruijn64tab", laid_math_bits_deBruijn64tab)] }
def BitsInverseSaid : Prop := bitsInverseRow.holds Tryd.pinned (OpenSpec.ofChange bitsInverseSpec)

/-- ITS FALSE NEIGHBOUR: 'it returns false'. Refute it at one input. -/
def bitsInverseWrong : ChangeSpec := { name := "bitsInverse", fn := fun _ => fun
  | [d1, d2, d3] => { results := [.lit (.bool false)], args := [d1, d2, d3] }
  | _ => none }
def BitsInverseWrongFalsely : Prop := bitsInverseRow.holds Tryd.pinned (OpenSpec.ofChange bitsInverseWrong)

/-- 'spoondriftlaw02.BitsMeet': WHATEVER THE INPUT: true; the input reads as it did. -/
def bitsMeetSpec : ChangeSpec := { name := "bitsMeet", fn := fun _ => fun
  | [d1, d2, d3] => { results := [.lit (.bool true)], args := [d1, d2, d3] }
  | _ => none }
def bitsMeetRow : OpenClaim := { program := "ytfmnfdnoniljgaadoor", sum := "d3c2e49ae4cfbc2558bfa538c83ea202866737eb4c81d9e7ec87e82ccfdfb6c4", func := "spoondrift/spoondriftlaw02.BitsMeet", spec := "bitsMeet", unfollowed := true, recurses := true, named := ["math/bits.deBruijn32tab", "math/bits.deBruijn64tab"], apart := false, laid := [("math/bits.deBruijn32tab", laid_math_bits_deBruijn32tab), ("math/bits.deBruijn64tab", laid_math_bits_deBruijn64tab)] }
def BitsMeetSaid : Prop := bitsMeetRow.holds Tryd.pinned (OpenSpec.ofChange bitsMeetSpec)

/-- ITS FALSE NEIGHBOUR: 'it returns false'. Refute it at one input. -/
def bitsMeetWrong : ChangeSpec := { name := "bitsMeet", fn := fun _ => fun
  | [d1, d2, d3] => { results := [.lit (.bool false)], args := [d1, d2, d3] }
  | _ => none }
def BitsMeetWrongFalsely : Prop := bitsMeetRow.holds Tryd.pinned (OpenSpec.ofChange bitsMeetWrong)

/-- 'spoondriftlaw02.BitsDual': WHATEVER THE INPUT: true; the input reads as it did. -/
def bitsDualSpec : ChangeSpec := { name := "bitsDual", fn := fun _ => fun
  | [d1, d2] => { results := [.lit (.bool true)], args := [d1, d2] }
  | _ => none }
def bitsDualRow : OpenClaim := { program := "ytfmnfdnoniljgaadoor", sum := "d3c2e49ae4cfbc2558bfa538c83ea202866737eb4c81d9e7ec87e82ccfdfb6c4", func := "spoondrift/spoondriftlaw02.BitsDual", spec := "bitsDual", unfollowed := true, recurses := true, named := ["math/bits.deBruijn32tab", "math/bits.deBruijn64tab"], apart := false, laid := [("math/bits.deBruijn32tab", laid_math_bits_deBruijn32tab), ("math/bits.deBruijn64tab", laid_math_bits_deBruijn64tab)] }
def BitsDualSaid : Prop := bitsDualRow.holds Tryd.pinned (OpenSpec.ofChange bitsDualSpec)

/-- ITS FALSE NEIGHBOUR: 'it returns false'. Refute it at one input. -/
def bitsDualWrong : ChangeSpec := { name := "bitsDual", fn := fun _ => fun
  | [d1, d2] => { results := [.lit (.bool false)], args := [d1, d2] }
  | _ => none }
def BitsDualWrongFalsely : Prop := bitsDualRow.holds Tryd.pinned (OpenSpec.ofChange bitsDualWrong)

/-- 'spoondriftlaw02.BitsLight': WHATEVER THE INPUT: true; the input reads as it did. -/
def bitsLightSpec : ChangeSpec := { name := "bitsLight", fn := fun _ => fun
  | [d1, d2, d3] => { results := [.lit (.bool true)], args := [d1, d2, d3] }
  | _ => none }
def bitsLightRow : OpenClaim := { program := "ytfmnfdnoniljgaadoor", sum := "d3c2e49ae4cfbc2558bfa538c83ea202866737eb4c81d9e7ec87e82ccfdfb6c4", func := "spoondrift/spoondriftlaw02.BitsLight", spec := "bitsLight", unfollowed := true, recurses := true, named := ["math/bits.deBruijn32tab", "math/bits.deBruijn64tab"], apart := false, laid := [("math/bits.deBruijn32tab", laid_math_bits_deBruijn32tab), ("math/bits.deBruijn64tab", laid_math_bits_deBruijn64tab)] }
def BitsLightSaid : Prop := bitsLightRow.holds Tryd.pinned (OpenSpec.ofChange bitsLightSpec)

/-- ITS FALSE NEIGHBOUR: 'it returns false'. Refute it at one input. -/
def bitsLightWrong : ChangeSpec := { name := "bitsLight", fn := fun _ => fun
  | [d1, d2, d3] => { results := [.lit (.bool false)], args := [d1, d2, d3] }
  | _ => none }
def BitsLightWrongFalsely : Prop := bitsLightRow.holds Tryd.pinned (OpenSpec.ofChange bitsLightWrong)

/- THE SECOND FORM. 'bulk': how many values and letters a reading holds, each counted each time it is reached (what is shared counts as often as it is met; a slice's spare places count too). A statement '..UptoSaid' is the law's where the arguments, and the package variables that the reading takes, are together of bulk at most 1048576: NARROWER than '..Said'. Prove '..Said' where nothing that the law and all that it calls make is longer than what came in: it says more and counts as full. Else prove '..UptoSaid'. A law counts once. -/
mutual
def uptoBulk {H : Type} : DataW H → Nat
  | .lit (.string bytes) => bytes.length + 1
  | .lit _ => 1
  | .nil => 1
  | .ptr d => uptoBulk d + 1
  | .slice elems spare => uptoBulkAll elems + uptoBulkAll spare + 1
  | .agg parts => uptoBulkAll parts + 1
  | .iface _ d => uptoBulk d + 1
  | .map entries => uptoBulkEntries entries + 1
  | .held _ => 1
def uptoBulkAll {H : Type} : List (DataW H) → Nat
  | [] => 0
  | d :: r => uptoBulk d + uptoBulkAll r
def uptoBulkEntries {H : Type} : List (Lit × DataW H) → Nat
  | [] => 0
  | x :: r => uptoBulkEntry x + uptoBulkEntries r
def uptoBulkEntry {H : Type} : Lit × DataW H → Nat
  | (.string bytes, d) => bytes.length + uptoBulk d + 1
  | (_, d) => uptoBulk d + 1
 end
def uptoSmall : (H : Type) → List (DataW H) → Bool := fun _ ds => decide (uptoBulkAll ds ≤ 1048576)
def OpenSpec.upto (s : _root_.Go.ChangeSpec) : _root_.Go.OpenSpec := { _root_.Go.OpenSpec.ofChange s with cond := some uptoSmall }

/-- 'spoondriftlaw02.BitsSpans', WHERE WHAT IT READS IS OF BULK AT MOST 1048576: true; the input reads as it did. -/
def bitsSpansUptoRow : OpenClaim := { program := "ytfmnfdnoniljgaadoor", sum := "d3c2e49ae4cfbc2558bfa538c83ea202866737eb4c81d9e7ec87e82ccfdfb6c4", func := "spoondrift/spoondriftlaw02.BitsSpans", spec := "bitsSpans", unfollowed := true, recurses := true, named := ["math/bits.deBruijn32tab", "math/bits.deBruijn64tab"], apart := false, laid := [("math/bits.deBruijn32tab", laid_math_bits_deBruijn32tab), ("math/bits.deBruijn64tab", laid_math_bits_deBruijn64tab)], narrowed := true }
def BitsSpansUptoSaid : Prop := bitsSpansUptoRow.holds Tryd.pinned (OpenSpec.upto bitsSpansSpec)

/-- 'spoondriftlaw02.BitsMembers', WHERE WHAT IT READS IS OF BULK AT MOST 1048576: true; the input reads as it did. -/
def bitsMembersUptoRow : OpenClaim := { program := "ytfmnfdnoniljgaadoor", sum := "d3c2e49ae4cfbc2558bfa538c83ea202866737eb4c81d9e7ec87e82ccfdfb6c4", func := "spoondrift/spoondriftlaw02.BitsMembers", spec := "bitsMembers", unfollowed := true, recurses := true, named := ["math/bits.deBruijn32tab", "math/bits.deBruijn64tab"], apart := false, laid := [("math/bits.deBruijn32tab", laid_math_bits_deBruijn32tab), ("math/bits.deBruijn64tab", laid_math_bits_deBruijn64tab)], narrowed := true }
def BitsMembersUptoSaid : Prop := bitsMembersUptoRow.holds Tryd.pinned (OpenSpec.upto bitsMembersSpec)

/-- 'spoondriftlaw02.BitsSolves', WHERE WHAT IT READS IS OF BULK AT MOST 1048576: true; the input reads as it did. -/
def bitsSolvesUptoRow : OpenClaim := { program := "ytfmnfdnoniljgaadoor", sum := "d3c2e49ae4cfbc2558bfa538c83ea202866737eb4c81d9e7ec87e82ccfdfb6c4", func := "spoondrift/spoondriftlaw02.BitsSolves", spec := "bitsSolves", unfollowed := true, recurses := true, named := ["math/bits.deBruijn32tab", "math/bits.deBruijn64tab"], apart := false, laid := [("math/bits.deBruijn32tab", laid_math_bits_deBruijn32tab), ("math/bits.deBruijn64tab", laid_math_bits_deBruijn64tab)], narrowed := true }
def BitsSolvesUptoSaid : Prop := bitsSolvesUptoRow.holds Tryd.pinned (OpenSpec.upto bitsSolvesSpec)

/-- 'spoondriftlaw02.BitsMatrices', WHERE WHAT IT READS IS OF BULK AT MOST 1048576: true; the input reads as it did. -/
def bitsMatricesUptoRow : OpenClaim := { program := "ytfmnfdnoniljgaadoor", sum := "d3c2e49ae4cfbc2558bfa538c83ea202866737eb4c81d9e7ec87e82ccfdfb6c4", func := "spoondrift/spoondriftlaw02.BitsMatrices", spec := "bitsMatrices", unfollowed := true, recurses := true, named := ["math/bits.deBruijn32tab", "math/bits.deBruijn64tab"], apart := false, laid := [("math/bits.deBruijn32tab", laid_math_bits_deBruijn32tab), ("math/bits.deBruijn64tab", laid_math_bits_deBruijn64tab)], narrowed := true }
def BitsMatricesUptoSaid : Prop := bitsMatricesUptoRow.holds Tryd.pinned (OpenSpec.upto bitsMatricesSpec)

/-- 'spoondriftlaw02.BitsWeights', WHERE WHAT IT READS IS OF BULK AT MOST 1048576: true; the input reads as it did. -/
def bitsWeightsUptoRow : OpenClaim := { program := "ytfmnfdnoniljgaadoor", sum := "d3c2e49ae4cfbc2558bfa538c83ea202866737eb4c81d9e7ec87e82ccfdfb6c4", func := "spoondrift/spoondriftlaw02.BitsWeights", spec := "bitsWeights", unfollowed := true, recurses := true, named := ["math/bits.deBruijn32tab", "math/bits.deBruijn64tab"], apart := false, laid := [("math/bits.deBruijn32tab", laid_math_bits_deBruijn32tab), ("math/bits.deBruijn64tab", laid_math_bits_deBruijn64tab)], narrowed := true }
def BitsWeightsUptoSaid : Prop := bitsWeightsUptoRow.holds Tryd.pinned (OpenSpec.upto bitsWeightsSpec)

/-- 'spoondriftlaw02.BitsSmall', WHERE WHAT IT READS IS OF BULK AT MOST 1048576: true; the input reads as it did. -/
def bitsSmallUptoRow : OpenClaim := { program := "ytfmnfdnoniljgaadoor", sum := "d3c2e49ae4cfbc2558bfa538c83ea202866737eb4c81d9e7ec87e82ccfdfb6c4", func := "spoondrift/spoondriftlaw02.BitsSmall", spec := "bitsSmall", unfollowed := true, recurses := true, named := ["math/bits.deBruijn32tab", "math/bits.deBruijn64tab"], apart := false, laid := [("math/bits.deBruijn32tab", laid_math_bits_deBruijn32tab), ("math/bits.deBruijn64tab", laid_math_bits_deBruijn64tab)], narrowed := true }
def BitsSmallUptoSaid : Prop := bitsSmallUptoRow.holds Tryd.pinned (OpenSpec.upto bitsSmallSpec)

/-- 'spoondriftlaw02.BitsOrthogonal', WHERE WHAT IT READS IS OF BULK AT MOST 1048576: true; the input reads as it did. -/
def bitsOrthogonalUptoRow : OpenClaim := { program := "ytfmnfdnoniljgaadoor", sum := "d3c2e49ae4cfbc2558bfa538c83ea202866737eb4c81d9e7ec87e82ccfdfb6c4", func := "spoondrift/spoondriftlaw02.BitsOrthogonal", spec := "bitsOrthogonal", unfollowed := true, recurses := true, named := ["math/bits.deBruijn32tab", "math/bits.deBruijn64tab"], apart := false, laid := [("math/bits.deBruijn32tab", laid_math_bits_deBruijn32tab), ("math/bits.deBruijn64tab", laid_math_bits_deBruijn64tab)], narrowed := true }
def BitsOrthogonalUptoSaid : Prop := bitsOrthogonalUptoRow.holds Tryd.pinned (OpenSpec.upto bitsOrthogonalSpec)

/-- 'spoondriftlaw02.BitsReduced', WHERE WHAT IT READS IS OF BULK AT MOST 1048576: true; the input reads as it did. -/
def bitsReducedUptoRow : OpenClaim := { program := "ytfmnfdnoniljgaadoor", sum := "d3c2e49ae4cfbc2558bfa538c83ea202866737eb4c81d9e7ec87e82ccfdfb6c4", func := "spoondrift/spoondriftlaw02.BitsReduced", spec := "bitsReduced", unfollowed := true, recurses := true, named := ["math/bits.deBruijn32tab", "math/bits.deBruijn64tab"], apart := false, laid := [("math/bits.deBruijn32tab", laid_math_bits_deBruijn32tab), ("math/bits.deBruijn64tab", laid_math_bits_deBruijn64tab)], narrowed := true }
def BitsReducedUptoSaid : Prop := bitsReducedUptoRow.holds Tryd.pinned (OpenSpec.upto bitsReducedSpec)

/-- 'spoondriftlaw02.BitsSolved', WHERE WHAT IT READS IS OF BULK AT MOST 1048576: true; the input reads as it did. -/
def bitsSolvedUptoRow : OpenClaim := { program := "ytfmnfdnoniljgaadoor", sum := "d3c2e49ae4cfbc2558bfa538c83ea202866737eb4c81d9e7ec87e82ccfdfb6c4", func := "spoondrift/spoondriftlaw02.BitsSolved", spec := "bitsSolved", unfollowed := true, recurses := true, named := ["math/bits.deBruijn32tab", "math/bits.deBruijn64tab"], apart := false, laid := [("math/bits.deBruijn32tab", laid_math_bits_deBruijn32tab), ("math/bits.deBruijn64tab", laid_math_bits_deBruijn64tab)], narrowed := true }
def BitsSolvedUptoSaid : Prop := bitsSolvedUptoRow.holds Tryd.pinned (OpenSpec.upto bitsSolvedSpec)

/-- 'spoondriftlaw02.BitsInverse', WHERE WHAT IT READS IS OF BULK AT MOST 1048576: true; the input reads as it did. -/
def bitsInverseUptoRow : OpenClaim := { program := "ytfmnfdnoniljgaadoor", sum := "d3c2e49ae4cfbc2558bfa538c83ea202866737eb4c81d9e7ec87e82ccfdfb6c4", func := "spoondrift/spoondriftlaw02.BitsInverse", spec := "bitsInverse", unfollowed := true, recurses := true, named := ["math/bits.deBruijn32tab", "math/bits.deBruijn64tab"], apart := false, laid := [("math/bits.deBruijn32tab", laid_math_bits_deBruijn32tab), ("math/bits.deBruijn64tab", laid_math_bits_deBruijn64tab)], narrowed := true }
def BitsInverseUptoSaid : Prop := bitsInverseUptoRow.holds Tryd.pinned (OpenSpec.upto bitsInverseSpec)

/-- 'spoondriftlaw02.BitsMeet', WHERE WHAT IT READS IS OF BULK AT MOST 1048576: true; the input reads as it did. -/
def bitsMeetUptoRow : OpenClaim := { program := "ytfmnfdnoniljgaadoor", sum := "d3c2e49ae4cfbc2558bfa538c83ea202866737eb4c81d9e7ec87e82ccfdfb6c4", func := "spoondrift/spoondriftlaw02.BitsMeet", spec := "bitsMeet", unfollowed := true, recurses := true, named := ["math/bits.deBruijn32tab", "math/bits.deBruijn64tab"], apart := false, laid := [("math/bits.deBruijn32tab", laid_math_bits_deBruijn32tab), ("math/bits.deBruijn64tab", laid_math_bits_deBruijn64tab)], narrowed := true }
def BitsMeetUptoSaid : Prop := bitsMeetUptoRow.holds Tryd.pinned (OpenSpec.upto bitsMeetSpec)

/-- 'spoondriftlaw02.BitsDual', WHERE WHAT IT READS IS OF BULK AT MOST 1048576: true; the input reads as it did. -/
def bitsDualUptoRow : OpenClaim := { program := "ytfmnfdnoniljgaadoor", sum := "d3c2e49ae4cfbc2558bfa538c83ea202866737eb4c81d9e7ec87e82ccfdfb6c4", func := "spoondrift/spoondriftlaw02.BitsDual", spec := "bitsDual", unfollowed := true, recurses := true, named := ["math/bits.deBruijn32tab", "math/bits.deBruijn64tab"], apart := false, laid := [("math/bits.deBruijn32tab", laid_math_bits_deBruijn32tab), ("math/bits.deBruijn64tab", laid_math_bits_deBruijn64tab)], narrowed := true }
def BitsDualUptoSaid : Prop := bitsDualUptoRow.holds Tryd.pinned (OpenSpec.upto bitsDualSpec)

/-- 'spoondriftlaw02.BitsLight', WHERE WHAT IT READS IS OF BULK AT MOST 1048576: true; the input reads as it did. -/
def bitsLightUptoRow : OpenClaim := { program := "ytfmnfdnoniljgaadoor", sum := "d3c2e49ae4cfbc2558bfa538c83ea202866737eb4c81d9e7ec87e82ccfdfb6c4", func := "spoondrift/spoondriftlaw02.BitsLight", spec := "bitsLight", unfollowed := true, recurses := true, named := ["math/bits.deBruijn32tab", "math/bits.deBruijn64tab"], apart := false, laid := [("math/bits.deBruijn32tab", laid_math_bits_deBruijn32tab), ("math/bits.deBruijn64tab", laid_math_bits_deBruijn64tab)], narrowed := true }
def BitsLightUptoSaid : Prop := bitsLightUptoRow.holds Tryd.pinned (OpenSpec.upto bitsLightSpec)

end Rows
end Go.Proofs.YtfmnfdnoniljgaaDoor
