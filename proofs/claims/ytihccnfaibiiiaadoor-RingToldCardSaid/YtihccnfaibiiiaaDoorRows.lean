/-
  NARROWER THAN 'FOR EVERY INPUT', by the rows' own cells (each row's printed sentence says how): RingLeast: laid · RingDivides: laid · RingTexts: laid · RingField: laid · RingTurned: laid · RingNormed: laid · RingOrdered: laid · RingDivided: laid · RingTold: laid · RingPhased: laid.
  DERIVED. THE GIVEN ROWS OF THIS SEAT. 10 by the template 'for every input the law returns true; each argument reads behind the call as it read before'; 0 by the template 'total and deterministic' (their statements: YtihccnfaibiiiaaDoorTotals.lean).
  GIVEN WITH THE SEED: the statements are not yours to turn. If you find one false, say at which input.
  Laid BY PROGRAM, IN A SANDBOX (cutbox-rows.mjs): the forced cells as the released guide's own fill.sh prints them over the translation 3bb2ae4c6f7e2288… (all of the seat's roots in one cut). By AI agents, Wed Nov 11 2026. No macro, syntax, notation, axiom, sorry.
-/
import Derived.Test.YtihccnfaibiiiaaDoorChecked
import GoSem.Claim
import GoSem.ClaimJoined
import GoSem.ClaimMapViews
import Derived.JoinedTies
import Derived.KernelRfl
namespace Go.Proofs.YtihccnfaibiiiaaDoor
/- THE CELL 'sum', in the pinned program and in every row, IS THE sha256 OF THE DUMP (.gsa) THAT YtihccnfaibiiiaaDoorProg.lean LOADS. Nothing in Lean hashes anything: it is a label: what it is worth is what the hold of that sum in a sandbox is worth. -/
noncomputable def Tryd.pinned : Pinned := { name := "ytihccnfaibiiiaadoor", sum := "3bb2ae4c6f7e228879b3fff14dab70b263c83942e9a310fd2e810a172b5123d3", checked := Tryd.checked }
namespace Rows
def none {H : Type} : Left H := { results := [], args := [] }

/- WHAT THE LISTED PACKAGE-LEVEL VARIABLES READ AS WHEN THE CALL BEGINS. Each datum BY PROGRAM (the guide's laid-datum.mjs) off the statement by which the dump's own 'gosem.cut.vars' lays the variable. In a bare row this is a premise. The card (YtihccnfaibiiiaaDoorCards.lean) ties it to the program's text. -/
def laid_math_bits_deBruijn32tab {H : Type} : DataW H := .agg [.lit (.int .u8 0), .lit (.int .u8 1), .lit (.int .u8 28), .lit (.int .u8 2), .lit (.int .u8 29), .lit (.int .u8 14), .lit (.int .u8 24), .lit (.int .u8 3), .lit (.int .u8 30), .lit (.int .u8 22), .lit (.int .u8 20), .lit (.int .u8 15), .lit (.int .u8 25), .lit (.int .u8 17), .lit (.int .u8 4), .lit (.int .u8 8), .lit (.int .u8 31), .lit (.int .u8 27), .lit (.int .u8 13), .lit (.int .u8 23), .lit (.int .u8 21), .lit (.int .u8 19), .lit (.int .u8 16), .lit (.int .u8 7), .lit (.int .u8 26), .lit (.int .u8 12), .lit (.int .u8 18), .lit (.int .u8 6), .lit (.int .u8 11), .lit (.int .u8 5), .lit (.int .u8 10), .lit (.int .u8 9)]
def laid_math_bits_deBruijn64tab {H : Type} : DataW H := .agg [.lit (.int .u8 0), .lit (.int .u8 1), .lit (.int .u8 56), .lit (.int .u8 2), .lit (.int .u8 57), .lit (.int .u8 49), .lit (.int .u8 28), .lit (.int .u8 3), .lit (.int .u8 61), .lit (.int .u8 58), .lit (.int .u8 42), .lit (.int .u8 50), .lit (.int .u8 38), .lit (.int .u8 29), .lit (.int .u8 17), .lit (.int .u8 4), .lit (.int .u8 62), .lit (.int .u8 47), .lit (.int .u8 59), .lit (.int .u8 36), .lit (.int .u8 45), .lit (.int .u8 43), .lit (.int .u8 51), .lit (.int .u8 22), .lit (.int .u8 53), .lit (.int .u8 39), .lit (.int .u8 33), .lit (.int .u8 30), .lit (.int .u8 24), .lit (.int .u8 18), .lit (.int .u8 12), .lit (.int .u8 5), .lit (.int .u8 63), .lit (.int .u8 55), .lit (.int .u8 48), .lit (.int .u8 27), .lit (.int .u8 60), .lit (.int .u8 41), .lit (.int .u8 37), .lit (.int .u8 16), .lit (.int .u8 46), .lit (.int .u8 35), .lit (.int .u8 44), .lit (.int .u8 21), .lit (.int .u8 52), .lit (.int .u8 32), .lit (.int .u8 23), .lit (.int .u8 11), .lit (.int .u8 54), .lit (.int .u8 26), .lit (.int .u8 40), .lit (.int .u8 15), .lit (.int .u8 34), .lit (.int .u8 20), .lit (.int .u8 31), .lit (.int .u8 10), .lit (.int .u8 25), .lit (.int .u8 14), .lit (.int .u8 19), .lit (.int .u8 9), .lit (.int .u8 13), .lit (.int .u8 8), .lit (.int .u8 7), .lit (.int .u8 6)]
def laid_internal_strconv_uint64pow10 {H : Type} : DataW H := .agg [.lit (.int .u64 1), .lit (.int .u64 10), .lit (.int .u64 100), .lit (.int .u64 1000), .lit (.int .u64 10000), .lit (.int .u64 100000), .lit (.int .u64 1000000), .lit (.int .u64 10000000), .lit (.int .u64 100000000), .lit (.int .u64 1000000000), .lit (.int .u64 10000000000), .lit (.int .u64 100000000000), .lit (.int .u64 1000000000000), .lit (.int .u64 10000000000000), .lit (.int .u64 100000000000000), .lit (.int .u64 1000000000000000), .lit (.int .u64 10000000000000000), .lit (.int .u64 100000000000000000), .lit (.int .u64 1000000000000000000), .lit (.int .u64 10000000000000000000)]
def laid_spoondrift_ring_units {H : Type} : DataW H := .agg [.lit (.string []), .lit (.string [119]), .lit (.string [119, 50]), .lit (.string [119, 51])]

/-- 'spoondriftlaw01.RingLeast': WHATEVER THE INPUT: true; the input reads as it did. -/
def ringLeastSpec : ChangeSpec := { name := "ringLeast", fn := fun _ => fun
  | [d1, d2] => { results := [.lit (.bool true)], args := [d1, d2] }
  | _ => none }
def ringLeastRow : OpenClaim := { program := "ytihccnfaibiiiaadoor", sum := "3bb2ae4c6f7e228879b3fff14dab70b263c83942e9a310fd2e810a172b5123d3", func := "spoondrift/spoondriftlaw01.RingLeast", spec := "ringLeast", inPlace := ["internal/abi.NoEscape", "internal/bytealg.IndexByteString", "internal/bytealg.IndexString"], unfollowed := true, recurses := true, named := ["spoondrift/ring.units", "internal/strconv.uint64pow10", "math/bits.deBruijn32tab", "math/bits.deBruijn64tab", "internal/bytealg.MaxLen"], plainKeys := false, apart := false, laid := [("math/bits.deBruijn32tab", laid_math_bits_deBruijn32tab), ("math/bits.deBruijn64tab", laid_math_bits_deBruijn64tab), ("internal/strconv.uint64pow10", laid_internal_strconv_uint64pow10), ("spoondrift/ring.units", laid_spoondrift_ring_units)] }
def RingLeastSaid : Prop := ringLeastRow.holds Tryd.pinned (OpenSpec.ofChange ringLeastSpec)

/-- ITS FALSE NEIGHBOUR: 'it returns false'. Refute it at one input. -/
def ringLeastWrong : ChangeSpec := { name := "ringLeast", fn := fun _ => fun
  | [d1, d2] => { results := [.lit (.bool false)], args := [d1, d2] }
  | _ => none }
def RingLeastWrongFalsely : Prop := ringLeastRow.holds Tryd.pinned (OpenSpec.ofChange ringLeastWrong)

/-- 'spoondriftlaw01.RingDivides': WHATEVER THE INPUT: true; the input reads as it did. -/
def ringDividesSpec : ChangeSpec := { name := "ringDivides", fn := fun _ => fun
  | [d1, d2] => { results := [.lit (.bool true)], args := [d1, d2] }
  | _ => none }
def ringDividesRow : OpenClaim := { program := "ytihccnfaibiiiaadoor", sum := "3bb2ae4c6f7e228879b3fff14dab70b263c83942e9a310fd2e810a172b5123d3", func := "spoondrift/spoondriftlaw01.RingDivides", spec := "ringDivides", inPlace := ["internal/abi.NoEscape", "internal/bytealg.IndexByteString", "internal/bytealg.IndexString"], unfollowed := true, recurses := true, named := ["spoondrift/ring.units", "internal/strconv.uint64pow10", "math/bits.deBruijn32tab", "math/bits.deBruijn64tab", "internal/bytealg.MaxLen"], plainKeys := false, apart := false, laid := [("math/bits.deBruijn32tab", laid_math_bits_deBruijn32tab), ("math/bits.deBruijn64tab", laid_math_bits_deBruijn64tab), ("internal/strconv.uint64pow10", laid_internal_strconv_uint64pow10), ("spoondrift/ring.units", laid_spoondrift_ring_units)] }
def RingDividesSaid : Prop := ringDividesRow.holds Tryd.pinned (OpenSpec.ofChange ringDividesSpec)

/-- ITS FALSE NEIGHBOUR: 'it returns false'. Refute it at one input. -/
def ringDividesWrong : ChangeSpec := { name := "ringDivides", fn := fun _ => fun
  | [d1, d2] => { results := [.lit (.bool false)], args := [d1, d2] }
  | _ => none }
def RingDividesWrongFalsely : Prop := ringDividesRow.holds Tryd.pinned (OpenSpec.ofChange ringDividesWrong)

/-- 'spoondriftlaw01.RingTexts': WHATEVER THE INPUT: true; the input reads as it did. -/
def ringTextsSpec : ChangeSpec := { name := "ringTexts", fn := fun _ => fun
  | [d1, d2] => { results := [.lit (.bool true)], args := [d1, d2] }
  | _ => none }
def ringTextsRow : OpenClaim := { program := "ytihccnfaibiiiaadoor", sum := "3bb2ae4c6f7e228879b3fff14dab70b263c83942e9a310fd2e810a172b5123d3", func := "spoondrift/spoondriftlaw01.RingTexts", spec := "ringTexts", inPlace := ["internal/abi.NoEscape", "internal/bytealg.IndexByteString", "internal/bytealg.IndexString"], unfollowed := true, recurses := true, named := ["spoondrift/ring.units", "internal/strconv.uint64pow10", "math/bits.deBruijn32tab", "math/bits.deBruijn64tab", "internal/bytealg.MaxLen"], plainKeys := false, apart := false, laid := [("math/bits.deBruijn32tab", laid_math_bits_deBruijn32tab), ("math/bits.deBruijn64tab", laid_math_bits_deBruijn64tab), ("internal/strconv.uint64pow10", laid_internal_strconv_uint64pow10), ("spoondrift/ring.units", laid_spoondrift_ring_units)] }
def RingTextsSaid : Prop := ringTextsRow.holds Tryd.pinned (OpenSpec.ofChange ringTextsSpec)

/-- ITS FALSE NEIGHBOUR: 'it returns false'. Refute it at one input. -/
def ringTextsWrong : ChangeSpec := { name := "ringTexts", fn := fun _ => fun
  | [d1, d2] => { results := [.lit (.bool false)], args := [d1, d2] }
  | _ => none }
def RingTextsWrongFalsely : Prop := ringTextsRow.holds Tryd.pinned (OpenSpec.ofChange ringTextsWrong)

/-- 'spoondriftlaw01.RingField': WHATEVER THE INPUT: true; the input reads as it did. -/
def ringFieldSpec : ChangeSpec := { name := "ringField", fn := fun _ => fun
  | [d] => { results := [.lit (.bool true)], args := [d] }
  | _ => none }
def ringFieldRow : OpenClaim := { program := "ytihccnfaibiiiaadoor", sum := "3bb2ae4c6f7e228879b3fff14dab70b263c83942e9a310fd2e810a172b5123d3", func := "spoondrift/spoondriftlaw01.RingField", spec := "ringField", inPlace := ["internal/abi.NoEscape", "internal/bytealg.IndexByteString", "internal/bytealg.IndexString"], unfollowed := true, recurses := true, named := ["spoondrift/ring.units", "internal/strconv.uint64pow10", "math/bits.deBruijn32tab", "math/bits.deBruijn64tab", "internal/bytealg.MaxLen"], plainKeys := false, apart := false, laid := [("math/bits.deBruijn32tab", laid_math_bits_deBruijn32tab), ("math/bits.deBruijn64tab", laid_math_bits_deBruijn64tab), ("internal/strconv.uint64pow10", laid_internal_strconv_uint64pow10), ("spoondrift/ring.units", laid_spoondrift_ring_units)] }
def RingFieldSaid : Prop := ringFieldRow.holds Tryd.pinned (OpenSpec.ofChange ringFieldSpec)

/-- ITS FALSE NEIGHBOUR: 'it returns false'. Refute it at one input. -/
def ringFieldWrong : ChangeSpec := { name := "ringField", fn := fun _ => fun
  | [d] => { results := [.lit (.bool false)], args := [d] }
  | _ => none }
def RingFieldWrongFalsely : Prop := ringFieldRow.holds Tryd.pinned (OpenSpec.ofChange ringFieldWrong)

/-- 'spoondriftlaw01.RingTurned': WHATEVER THE INPUT: true; the input reads as it did. -/
def ringTurnedSpec : ChangeSpec := { name := "ringTurned", fn := fun _ => fun
  | [d] => { results := [.lit (.bool true)], args := [d] }
  | _ => none }
def ringTurnedRow : OpenClaim := { program := "ytihccnfaibiiiaadoor", sum := "3bb2ae4c6f7e228879b3fff14dab70b263c83942e9a310fd2e810a172b5123d3", func := "spoondrift/spoondriftlaw01.RingTurned", spec := "ringTurned", inPlace := ["internal/abi.NoEscape", "internal/bytealg.IndexByteString", "internal/bytealg.IndexString"], unfollowed := true, recurses := true, named := ["spoondrift/ring.units", "internal/strconv.uint64pow10", "math/bits.deBruijn32tab", "math/bits.deBruijn64tab", "internal/bytealg.MaxLen"], plainKeys := false, apart := false, laid := [("math/bits.deBruijn32tab", laid_math_bits_deBruijn32tab), ("math/bits.deBruijn64tab", laid_math_bits_deBruijn64tab), ("internal/strconv.uint64pow10", laid_internal_strconv_uint64pow10), ("spoondrift/ring.units", laid_spoondrift_ring_units)] }
def RingTurnedSaid : Prop := ringTurnedRow.holds Tryd.pinned (OpenSpec.ofChange ringTurnedSpec)

/-- ITS FALSE NEIGHBOUR: 'it returns false'. Refute it at one input. -/
def ringTurnedWrong : ChangeSpec := { name := "ringTurned", fn := fun _ => fun
  | [d] => { results := [.lit (.bool false)], args := [d] }
  | _ => none }
def RingTurnedWrongFalsely : Prop := ringTurnedRow.holds Tryd.pinned (OpenSpec.ofChange ringTurnedWrong)

/-- 'spoondriftlaw01.RingNormed': WHATEVER THE INPUT: true; the input reads as it did. -/
def ringNormedSpec : ChangeSpec := { name := "ringNormed", fn := fun _ => fun
  | [d1, d2] => { results := [.lit (.bool true)], args := [d1, d2] }
  | _ => none }
def ringNormedRow : OpenClaim := { program := "ytihccnfaibiiiaadoor", sum := "3bb2ae4c6f7e228879b3fff14dab70b263c83942e9a310fd2e810a172b5123d3", func := "spoondrift/spoondriftlaw01.RingNormed", spec := "ringNormed", inPlace := ["internal/abi.NoEscape", "internal/bytealg.IndexByteString", "internal/bytealg.IndexString"], unfollowed := true, recurses := true, named := ["spoondrift/ring.units", "internal/strconv.uint64pow10", "math/bits.deBruijn32tab", "math/bits.deBruijn64tab", "internal/bytealg.MaxLen"], plainKeys := false, apart := false, laid := [("math/bits.deBruijn32tab", laid_math_bits_deBruijn32tab), ("math/bits.deBruijn64tab", laid_math_bits_deBruijn64tab), ("internal/strconv.uint64pow10", laid_internal_strconv_uint64pow10), ("spoondrift/ring.units", laid_spoondrift_ring_units)] }
def RingNormedSaid : Prop := ringNormedRow.holds Tryd.pinned (OpenSpec.ofChange ringNormedSpec)

/-- ITS FALSE NEIGHBOUR: 'it returns false'. Refute it at one input. -/
def ringNormedWrong : ChangeSpec := { name := "ringNormed", fn := fun _ => fun
  | [d1, d2] => { results := [.lit (.bool false)], args := [d1, d2] }
  | _ => none }
def RingNormedWrongFalsely : Prop := ringNormedRow.holds Tryd.pinned (OpenSpec.ofChange ringNormedWrong)

/-- 'spoondriftlaw01.RingOrdered': WHATEVER THE INPUT: true; the input reads as it did. -/
def ringOrderedSpec : ChangeSpec := { name := "ringOrdered", fn := fun _ => fun
  | [d] => { results := [.lit (.bool true)], args := [d] }
  | _ => none }
def ringOrderedRow : OpenClaim := { program := "ytihccnfaibiiiaadoor", sum := "3bb2ae4c6f7e228879b3fff14dab70b263c83942e9a310fd2e810a172b5123d3", func := "spoondrift/spoondriftlaw01.RingOrdered", spec := "ringOrdered", inPlace := ["internal/abi.NoEscape", "internal/bytealg.IndexByteString", "internal/bytealg.IndexString"], unfollowed := true, recurses := true, named := ["spoondrift/ring.units", "internal/strconv.uint64pow10", "math/bits.deBruijn32tab", "math/bits.deBruijn64tab", "internal/bytealg.MaxLen"], plainKeys := false, apart := false, laid := [("math/bits.deBruijn32tab", laid_math_bits_deBruijn32tab), ("math/bits.deBruijn64tab", laid_math_bits_deBruijn64tab), ("internal/strconv.uint64pow10", laid_internal_strconv_uint64pow10), ("spoondrift/ring.units", laid_spoondrift_ring_units)] }
def RingOrderedSaid : Prop := ringOrderedRow.holds Tryd.pinned (OpenSpec.ofChange ringOrderedSpec)

/-- ITS FALSE NEIGHBOUR: 'it returns false'. Refute it at one input. -/
def ringOrderedWrong : ChangeSpec := { name := "ringOrdered", fn := fun _ => fun
  | [d] => { results := [.lit (.bool false)], args := [d] }
  | _ => none }
def RingOrderedWrongFalsely : Prop := ringOrderedRow.holds Tryd.pinned (OpenSpec.ofChange ringOrderedWrong)

/-- 'spoondriftlaw01.RingDivided': WHATEVER THE INPUT: true; the input reads as it did. -/
def ringDividedSpec : ChangeSpec := { name := "ringDivided", fn := fun _ => fun
  | [d] => { results := [.lit (.bool true)], args := [d] }
  | _ => none }
def ringDividedRow : OpenClaim := { program := "ytihccnfaibiiiaadoor", sum := "3bb2ae4c6f7e228879b3fff14dab70b263c83942e9a310fd2e810a172b5123d3", func := "spoondrift/spoondriftlaw01.RingDivided", spec := "ringDivided", inPlace := ["internal/abi.NoEscape", "internal/bytealg.IndexByteString", "internal/bytealg.IndexString"], unfollowed := true, recurses := true, named := ["spoondrift/ring.units", "internal/strconv.uint64pow10", "math/bits.deBruijn32tab", "math/bits.deBruijn64tab", "internal/bytealg.MaxLen"], plainKeys := false, apart := false, laid := [("math/bits.deBruijn32tab", laid_math_bits_deBruijn32tab), ("math/bits.deBruijn64tab", laid_math_bits_deBruijn64tab), ("internal/strconv.uint64pow10", laid_internal_strconv_uint64pow10), ("spoondrift/ring.units", laid_spoondrift_ring_units)] }
def RingDividedSaid : Prop := ringDividedRow.holds Tryd.pinned (OpenSpec.ofChange ringDividedSpec)

/-- ITS FALSE NEIGHBOUR: 'it returns false'. Refute it at one input. -/
def ringDividedWrong : ChangeSpec := { name := "ringDivided", fn := fun _ => fun
  | [d] => { results := [.lit (.bool false)], args := [d] }
  | _ => none }
def RingDividedWrongFalsely : Prop := ringDividedRow.holds Tryd.pinned (OpenSpec.ofChange ringDividedWrong)

/-- 'spoondriftlaw01.RingTold': WHATEVER THE INPUT: true; the input reads as it did. -/
def ringToldSpec : ChangeSpec := { name := "ringTold", fn := fun _ => fun
  | [d1, d2] => { results := [.lit (.bool true)], args := [d1, d2] }
  | _ => none }
def ringToldRow : OpenClaim := { program := "ytihccnfaibiiiaadoor", sum := "3bb2ae4c6f7e228879b3fff14dab70b263c83942e9a310fd2e810a172b5123d3", func := "spoondrift/spoondriftlaw01.RingTold", spec := "ringTold", inPlace := ["internal/abi.NoEscape", "internal/bytealg.IndexByteString", "internal/bytealg.IndexString"], unfollowed := true, recurses := true, named := ["spoondrift/ring.units", "internal/strconv.uint64pow10", "math/bits.deBruijn32tab", "math/bits.deBruijn64tab", "internal/bytealg.MaxLen"], plainKeys := false, apart := false, laid := [("math/bits.deBruijn32tab", laid_math_bits_deBruijn32tab), ("math/bits.deBruijn64tab", laid_math_bits_deBruijn64tab), ("internal/strconv.uint64pow10", laid_internal_strconv_uint64pow10), ("spoondrift/ring.units", laid_spoondrift_ring_units)] }
def RingToldSaid : Prop := ringToldRow.holds Tryd.pinned (OpenSpec.ofChange ringToldSpec)

/-- ITS FALSE NEIGHBOUR: 'it returns false'. Refute it at one input. -/
def ringToldWrong : ChangeSpec := { name := "ringTold", fn := fun _ => fun
  | [d1, d2] => { results := [.lit (.bool false)], args := [d1, d2] }
  | _ => none }
def RingToldWrongFalsely : Prop := ringToldRow.holds Tryd.pinned (OpenSpec.ofChange ringToldWrong)

/-- 'spoondriftlaw01.RingPhased': WHATEVER THE INPUT: true; the input reads as it did. -/
def ringPhasedSpec : ChangeSpec := { name := "ringPhased", fn := fun _ => fun
  | [d1, d2] => { results := [.lit (.bool true)], args := [d1, d2] }
  | _ => none }
def ringPhasedRow : OpenClaim := { program := "ytihccnfaibiiiaadoor", sum := "3bb2ae4c6f7e228879b3fff14dab70b263c83942e9a310fd2e810a172b5123d3", func := "spoondrift/spoondriftlaw01.RingPhased", spec := "ringPhased", inPlace := ["internal/abi.NoEscape", "internal/bytealg.IndexByteString", "internal/bytealg.IndexString"], unfollowed := true, recurses := true, named := ["spoondrift/ring.units", "internal/strconv.uint64pow10", "math/bits.deBruijn32tab", "math/bits.deBruijn64tab", "internal/bytealg.MaxLen"], plainKeys := false, apart := false, laid := [("math/bits.deBruijn32tab", laid_math_bits_deBruijn32tab), ("math/bits.deBruijn64tab", laid_math_bits_deBruijn64tab), ("internal/strconv.uint64pow10", laid_internal_strconv_uint64pow10), ("spoondrift/ring.units", laid_spoondrift_ring_units)] }
def RingPhasedSaid : Prop := ringPhasedRow.holds Tryd.pinned (OpenSpec.ofChange ringPhasedSpec)

/-- ITS FALSE NEIGHBOUR: 'it returns false'. Refute it at one input. -/
def ringPhasedWrong : ChangeSpec := { name := "ringPhased", fn := fun _ => fun
  | [d1, d2] => { results := [.lit (.bool false)], args := [d1, d2] }
  | _ => none }
def RingPhasedWrongFalsely : Prop := ringPhasedRow.holds Tryd.pinned (OpenSpec.ofChange ringPhasedWrong)

/- THE SECOND FORM. 'bulk': how many values and letters a reading holds, each counted each time it is reached (what is shared counts as often as it is met; a slice's spare places count too). A statement '..UptoSaid' is the law's where the arguments, and the package variables that the reading takes, are together of bulk at most 1048576: NARROWER than '..Said'. Prove '..Said' where nothing that the law and all that it calls make is longer than what came in: it says more and counts as full. Else prove '..UptoSaid'. A law counts once. -/
mutual
def uptoBulk {H : Type} : DataW H → Nat
  | .lit (.string bytes) => bytes.length + 1
  | .lit _ => 1
  | .nil => 1
  | .ptr d => uptoBulk d + 1
  | .slice elems spare => uptoBulkAll elems + uptoBulkAll spare + 1
  | .agg parts => uptoBulkAll parts + 1
  | .iface _ d => uptoBulk d + 1
  | .map entries => uptoBulkEntries entries + 1
  | .held _ => 1
def uptoBulkAll {H : Type} : List (DataW H) → Nat
  | [] => 0
  | d :: r => uptoBulk d + uptoBulkAll r
def uptoBulkEntries {H : Type} : List (Lit × DataW H) → Nat
  | [] => 0
  | x :: r => uptoBulkEntry x + uptoBulkEntries r
def uptoBulkEntry {H : Type} : Lit × DataW H → Nat
  | (.string bytes, d) => bytes.length + uptoBulk d + 1
  | (_, d) => uptoBulk d + 1
 end
def uptoSmall : (H : Type) → List (DataW H) → Bool := fun _ ds => decide (uptoBulkAll ds ≤ 1048576)
def OpenSpec.upto (s : _root_.Go.ChangeSpec) : _root_.Go.OpenSpec := { _root_.Go.OpenSpec.ofChange s with cond := some uptoSmall }

/-- 'spoondriftlaw01.RingLeast', WHERE WHAT IT READS IS OF BULK AT MOST 1048576: true; the input reads as it did. -/
def ringLeastUptoRow : OpenClaim := { program := "ytihccnfaibiiiaadoor", sum := "3bb2ae4c6f7e228879b3fff14dab70b263c83942e9a310fd2e810a172b5123d3", func := "spoondrift/spoondriftlaw01.RingLeast", spec := "ringLeast", inPlace := ["internal/abi.NoEscape", "internal/bytealg.IndexByteString", "internal/bytealg.IndexString"], unfollowed := true, recurses := true, named := ["spoondrift/ring.units", "internal/strconv.uint64pow10", "math/bits.deBruijn32tab", "math/bits.deBruijn64tab", "internal/bytealg.MaxLen"], plainKeys := false, apart := false, laid := [("math/bits.deBruijn32tab", laid_math_bits_deBruijn32tab), ("math/bits.deBruijn64tab", laid_math_bits_deBruijn64tab), ("internal/strconv.uint64pow10", laid_internal_strconv_uint64pow10), ("spoondrift/ring.units", laid_spoondrift_ring_units)], narrowed := true }
def RingLeastUptoSaid : Prop := ringLeastUptoRow.holds Tryd.pinned (OpenSpec.upto ringLeastSpec)

/-- 'spoondriftlaw01.RingDivides', WHERE WHAT IT READS IS OF BULK AT MOST 1048576: true; the input reads as it did. -/
def ringDividesUptoRow : OpenClaim := { program := "ytihccnfaibiiiaadoor", sum := "3bb2ae4c6f7e228879b3fff14dab70b263c83942e9a310fd2e810a172b5123d3", func := "spoondrift/spoondriftlaw01.RingDivides", spec := "ringDivides", inPlace := ["internal/abi.NoEscape", "internal/bytealg.IndexByteString", "internal/bytealg.IndexString"], unfollowed := true, recurses := true, named := ["spoondrift/ring.units", "internal/strconv.uint64pow10", "math/bits.deBruijn32tab", "math/bits.deBruijn64tab", "internal/bytealg.MaxLen"], plainKeys := false, apart := false, laid := [("math/bits.deBruijn32tab", laid_math_bits_deBruijn32tab), ("math/bits.deBruijn64tab", laid_math_bits_deBruijn64tab), ("internal/strconv.uint64pow10", laid_internal_strconv_uint64pow10), ("spoondrift/ring.units", laid_spoondrift_ring_units)], narrowed := true }
def RingDividesUptoSaid : Prop := ringDividesUptoRow.holds Tryd.pinned (OpenSpec.upto ringDividesSpec)

/-- 'spoondriftlaw01.RingTexts', WHERE WHAT IT READS IS OF BULK AT MOST 1048576: true; the input reads as it did. -/
def ringTextsUptoRow : OpenClaim := { program := "ytihccnfaibiiiaadoor", sum := "3bb2ae4c6f7e228879b3fff14dab70b263c83942e9a310fd2e810a172b5123d3", func := "spoondrift/spoondriftlaw01.RingTexts", spec := "ringTexts", inPlace := ["internal/abi.NoEscape", "internal/bytealg.IndexByteString", "internal/bytealg.IndexString"], unfollowed := true, recurses := true, named := ["spoondrift/ring.units", "internal/strconv.uint64pow10", "math/bits.deBruijn32tab", "math/bits.deBruijn64tab", "internal/bytealg.MaxLen"], plainKeys := false, apart := false, laid := [("math/bits.deBruijn32tab", laid_math_bits_deBruijn32tab), ("math/bits.deBruijn64tab", laid_math_bits_deBruijn64tab), ("internal/strconv.uint64pow10", laid_internal_strconv_uint64pow10), ("spoondrift/ring.units", laid_spoondrift_ring_units)], narrowed := true }
def RingTextsUptoSaid : Prop := ringTextsUptoRow.holds Tryd.pinned (OpenSpec.upto ringTextsSpec)

/-- 'spoondriftlaw01.RingField', WHERE WHAT IT READS IS OF BULK AT MOST 1048576: true; the input reads as it did. -/
def ringFieldUptoRow : OpenClaim := { program := "ytihccnfaibiiiaadoor", sum := "3bb2ae4c6f7e228879b3fff14dab70b263c83942e9a310fd2e810a172b5123d3", func := "spoondrift/spoondriftlaw01.RingField", spec := "ringField", inPlace := ["internal/abi.NoEscape", "internal/bytealg.IndexByteString", "internal/bytealg.IndexString"], unfollowed := true, recurses := true, named := ["spoondrift/ring.units", "internal/strconv.uint64pow10", "math/bits.deBruijn32tab", "math/bits.deBruijn64tab", "internal/bytealg.MaxLen"], plainKeys := false, apart := false, laid := [("math/bits.deBruijn32tab", laid_math_bits_deBruijn32tab), ("math/bits.deBruijn64tab", laid_math_bits_deBruijn64tab), ("internal/strconv.uint64pow10", laid_internal_strconv_uint64pow10), ("spoondrift/ring.units", laid_spoondrift_ring_units)], narrowed := true }
def RingFieldUptoSaid : Prop := ringFieldUptoRow.holds Tryd.pinned (OpenSpec.upto ringFieldSpec)

/-- 'spoondriftlaw01.RingTurned', WHERE WHAT IT READS IS OF BULK AT MOST 1048576: true; the input reads as it did. -/
def ringTurnedUptoRow : OpenClaim := { program := "ytihccnfaibiiiaadoor", sum := "3bb2ae4c6f7e228879b3fff14dab70b263c83942e9a310fd2e810a172b5123d3", func := "spoondrift/spoondriftlaw01.RingTurned", spec := "ringTurned", inPlace := ["internal/abi.NoEscape", "internal/bytealg.IndexByteString", "internal/bytealg.IndexString"], unfollowed := true, recurses := true, named := ["spoondrift/ring.units", "internal/strconv.uint64pow10", "math/bits.deBruijn32tab", "math/bits.deBruijn64tab", "internal/bytealg.MaxLen"], plainKeys := false, apart := false, laid := [("math/bits.deBruijn32tab", laid_math_bits_deBruijn32tab), ("math/bits.deBruijn64tab", laid_math_bits_deBruijn64tab), ("internal/strconv.uint64pow10", laid_internal_strconv_uint64pow10), ("spoondrift/ring.units", laid_spoondrift_ring_units)], narrowed := true }
def RingTurnedUptoSaid : Prop := ringTurnedUptoRow.holds Tryd.pinned (OpenSpec.upto ringTurnedSpec)

/-- 'spoondriftlaw01.RingNormed', WHERE WHAT IT READS IS OF BULK AT MOST 1048576: true; the input reads as it did. -/
def ringNormedUptoRow : OpenClaim := { program := "ytihccnfaibiiiaadoor", sum := "3bb2ae4c6f7e228879b3fff14dab70b263c83942e9a310fd2e810a172b5123d3", func := "spoondrift/spoondriftlaw01.RingNormed", spec := "ringNormed", inPlace := ["internal/abi.NoEscape", "internal/bytealg.IndexByteString", "internal/bytealg.IndexString"], unfollowed := true, recurses := true, named := ["spoondrift/ring.units", "internal/strconv.uint64pow10", "math/bits.deBruijn32tab", "math/bits.deBruijn64tab", "internal/bytealg.MaxLen"], plainKeys := false, apart := false, laid := [("math/bits.deBruijn32tab", laid_math_bits_deBruijn32tab), ("math/bits.deBruijn64tab", laid_math_bits_deBruijn64tab), ("internal/strconv.uint64pow10", laid_internal_strconv_uint64pow10), ("spoondrift/ring.units", laid_spoondrift_ring_units)], narrowed := true }
def RingNormedUptoSaid : Prop := ringNormedUptoRow.holds Tryd.pinned (OpenSpec.upto ringNormedSpec)

/-- 'spoondriftlaw01.RingOrdered', WHERE WHAT IT READS IS OF BULK AT MOST 1048576: true; the input reads as it did. -/
def ringOrderedUptoRow : OpenClaim := { program := "ytihccnfaibiiiaadoor", sum := "3bb2ae4c6f7e228879b3fff14dab70b263c83942e9a310fd2e810a172b5123d3", func := "spoondrift/spoondriftlaw01.RingOrdered", spec := "ringOrdered", inPlace := ["internal/abi.NoEscape", "internal/bytealg.IndexByteString", "internal/bytealg.IndexString"], unfollowed := true, recurses := true, named := ["spoondrift/ring.units", "internal/strconv.uint64pow10", "math/bits.deBruijn32tab", "math/bits.deBruijn64tab", "internal/bytealg.MaxLen"], plainKeys := false, apart := false, laid := [("math/bits.deBruijn32tab", laid_math_bits_deBruijn32tab), ("math/bits.deBruijn64tab", laid_math_bits_deBruijn64tab), ("internal/strconv.uint64pow10", laid_internal_strconv_uint64pow10), ("spoondrift/ring.units", laid_spoondrift_ring_units)], narrowed := true }
def RingOrderedUptoSaid : Prop := ringOrderedUptoRow.holds Tryd.pinned (OpenSpec.upto ringOrderedSpec)

/-- 'spoondriftlaw01.RingDivided', WHERE WHAT IT READS IS OF BULK AT MOST 1048576: true; the input reads as it did. -/
def ringDividedUptoRow : OpenClaim := { program := "ytihccnfaibiiiaadoor", sum := "3bb2ae4c6f7e228879b3fff14dab70b263c83942e9a310fd2e810a172b5123d3", func := "spoondrift/spoondriftlaw01.RingDivided", spec := "ringDivided", inPlace := ["internal/abi.NoEscape", "internal/bytealg.IndexByteString", "internal/bytealg.IndexString"], unfollowed := true, recurses := true, named := ["spoondrift/ring.units", "internal/strconv.uint64pow10", "math/bits.deBruijn32tab", "math/bits.deBruijn64tab", "internal/bytealg.MaxLen"], plainKeys := false, apart := false, laid := [("math/bits.deBruijn32tab", laid_math_bits_deBruijn32tab), ("math/bits.deBruijn64tab", laid_math_bits_deBruijn64tab), ("internal/strconv.uint64pow10", laid_internal_strconv_uint64pow10), ("spoondrift/ring.units", laid_spoondrift_ring_units)], narrowed := true }
def RingDividedUptoSaid : Prop := ringDividedUptoRow.holds Tryd.pinned (OpenSpec.upto ringDividedSpec)

/-- 'spoondriftlaw01.RingTold', WHERE WHAT IT READS IS OF BULK AT MOST 1048576: true; the input reads as it did. -/
def ringToldUptoRow : OpenClaim := { program := "ytihccnfaibiiiaadoor", sum := "3bb2ae4c6f7e228879b3fff14dab70b263c83942e9a310fd2e810a172b5123d3", func := "spoondrift/spoondriftlaw01.RingTold", spec := "ringTold", inPlace := ["internal/abi.NoEscape", "internal/bytealg.IndexByteString", "internal/bytealg.IndexString"], unfollowed := true, recurses := true, named := ["spoondrift/ring.units", "internal/strconv.uint64pow10", "math/bits.deBruijn32tab", "math/bits.deBruijn64tab", "internal/bytealg.MaxLen"], plainKeys := false, apart := false, laid := [("math/bits.deBruijn32tab", laid_math_bits_deBruijn32tab), ("math/bits.deBruijn64tab", laid_math_bits_deBruijn64tab), ("internal/strconv.uint64pow10", laid_internal_strconv_uint64pow10), ("spoondrift/ring.units", laid_spoondrift_ring_units)], narrowed := true }
def RingToldUptoSaid : Prop := ringToldUptoRow.holds Tryd.pinned (OpenSpec.upto ringToldSpec)

/-- 'spoondriftlaw01.RingPhased', WHERE WHAT IT READS IS OF BULK AT MOST 1048576: true; the input reads as it did. -/
def ringPhasedUptoRow : OpenClaim := { program := "ytihccnfaibiiiaadoor", sum := "3bb2ae4c6f7e228879b3fff14dab70b263c83942e9a310fd2e810a172b5123d3", func := "spoondrift/spoondriftlaw01.RingPhased", spec := "ringPhased", inPlace := ["internal/abi.NoEscape", "internal/bytealg.IndexByteString", "internal/bytealg.IndexString"], unfollowed := true, recurses := true, named := ["spoondrift/ring.units", "internal/strconv.uint64pow10", "math/bits.deBruijn32tab", "math/bits.deBruijn64tab", "internal/bytealg.MaxLen"], plainKeys := false, apart := false, laid := [("math/bits.deBruijn32tab", laid_math_bits_deBruijn32tab), ("math/bits.deBruijn64tab", laid_math_bits_deBruijn64tab), ("internal/strconv.uint64pow10", laid_internal_strconv_uint64pow10), ("spoondrift/ring.units", laid_spoondrift_ring_units)], narrowed := true }
def RingPhasedUptoSaid : Prop := ringPhasedUptoRow.holds Tryd.pinned (OpenSpec.upto ringPhasedSpec)

end Rows
end Go.Proofs.YtihccnfaibiiiaaDoor
