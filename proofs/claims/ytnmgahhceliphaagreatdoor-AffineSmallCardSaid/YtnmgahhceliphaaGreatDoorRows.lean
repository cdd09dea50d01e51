/-
  NARROWER THAN 'FOR EVERY INPUT', by the rows' own cells (each row's printed sentence says how): AffineMaps: laid · AffineOf: laid · AffineOrbits: laid · AffineCircuits: laid · AffineNumbers: laid · AffineProofs: laid · AffineSmall: laid · AffineStates: laid · AffineCanonical: laid · AffineGroup: laid · AffineFixed: laid · AffineLeast: laid · AffineNumbered: laid.
  DERIVED. THE GIVEN ROWS OF THIS SEAT. 13 by the template 'for every input the law returns true; each argument reads behind the call as it read before'; 0 by the template 'total and deterministic' (their statements: YtnmgahhceliphaaGreatDoorTotals.lean).
  GIVEN WITH THE SEED: the statements are not yours to turn. If you find one false, say at which input.
  Laid BY PROGRAM, IN A SANDBOX (cutbox-rows.mjs): the forced cells as the released guide's own fill.sh prints them over the translation 6e497540f996257a… (all of the seat's roots in one cut). By AI agents, Wed Nov 11 2026. No macro, syntax, notation, axiom, sorry.
-/
import Derived.Test.YtnmgahhceliphaaGreatDoorChecked
import GoSem.Claim
import GoSem.ClaimJoined
import GoSem.ClaimMapViews
import Derived.JoinedTies
import Derived.KernelRfl
namespace Go.Proofs.YtnmgahhceliphaaGreatDoor
/- THE CELL 'sum', in the pinned program and in every row, IS THE sha256 OF THE DUMP (.gsa) THAT YtnmgahhceliphaaGreatDoorProg.lean LOADS. Nothing in Lean hashes anything: it is a label: what it is worth is what the hold of that sum in a sandbox is worth. -/
noncomputable def Tryz.pinned : Pinned := { name := "ytnmgahhceliphaagreatdoor", sum := "6e497540f996257a3799e22d63dbdccd0116e8e621d4785d60e49314ba9f80b6", checked := Tryz.checked }
namespace Rows
def none {H : Type} : Left H := { results := [], args := [] }

/- WHAT THE LISTED PACKAGE-LEVEL VARIABLES READ AS WHEN THE CALL BEGINS. Each datum BY PROGRAM (the guide's laid-datum.mjs) off the statement by which the dump's own 'gosem.cut.vars' lays the variable. In a bare row this is a premise. The card (YtnmgahhceliphaaGreatDoorCards.lean) ties it to the program's text. -/
def laid_spoondrift_circ_axes {H : Type} : DataW H := .agg [.lit (.string []), .lit (.string [120]), .lit (.string [121]), .lit (.string [122]), .lit (.string [104]), .lit (.string [122]), .lit (.string [122]), .lit (.string [122]), .lit (.string [122]), .lit (.string [122, 120]), .lit (.string [122, 122]), .lit (.string [46, 46]), .lit (.string [122, 122, 120]), .lit (.string [122]), .lit (.string [46])]
def laid_spoondrift_spoondriftkit_Linear {H : Type} : DataW H := .slice [.lit (.int .i64 1), .lit (.int .i64 9), .lit (.int .i64 11)] []

/-- 'spoondriftlaw07.AffineMaps': WHATEVER THE INPUT: true; the input reads as it did. -/
def affineMapsSpec : ChangeSpec := { name := "affineMaps", fn := fun _ => fun
  | [d1, d2, d3, d4] => { results := [.lit (.bool true)], args := [d1, d2, d3, d4] }
  | _ => none }
def affineMapsRow : OpenClaim := { program := "ytnmgahhceliphaagreatdoor", sum := "6e497540f996257a3799e22d63dbdccd0116e8e621d4785d60e49314ba9f80b6", func := "spoondrift/spoondriftlaw07.AffineMaps", spec := "affineMaps", unfollowed := true, recurses := true, named := ["spoondrift/circ.axes"], plainKeys := false, apart := false, laid := [("spoondrift/circ.axes", laid_spoondrift_circ_axes)] }
def AffineMapsSaid : Prop := affineMapsRow.holds Tryz.pinned (OpenSpec.ofChange affineMapsSpec)

/-- ITS FALSE NEIGHBOUR: 'it returns false'. Refute it at one input. -/
def affineMapsWrong : ChangeSpec := { name := "affineMaps", fn := fun _ => fun
  | [d1, d2, d3, d4] => { results := [.lit (.bool false)], args := [d1, d2, d3, d4] }
  | _ => none }
def AffineMapsWrongFalsely : Prop := affineMapsRow.holds Tryz.pinned (OpenSpec.ofChange affineMapsWrong)

/-- 'spoondriftlaw07.AffineOf': WHATEVER THE INPUT: true; the input reads as it did. -/
def affineOfSpec : ChangeSpec := { name := "affineOf", fn := fun _ => fun
  | [d] => { results := [.lit (.bool true)], args := [d] }
  | _ => none }
def affineOfRow : OpenClaim := { program := "ytnmgahhceliphaagreatdoor", sum := "6e497540f996257a3799e22d63dbdccd0116e8e621d4785d60e49314ba9f80b6", func := "spoondrift/spoondriftlaw07.AffineOf", spec := "affineOf", unfollowed := true, recurses := true, named := ["spoondrift/circ.axes"], plainKeys := false, apart := false, laid := [("spoondrift/circ.axes", laid_spoondrift_circ_axes)] }
def AffineOfSaid : Prop := affineOfRow.holds Tryz.pinned (OpenSpec.ofChange affineOfSpec)

/-- ITS FALSE NEIGHBOUR: 'it returns false'. Refute it at one input. -/
def affineOfWrong : ChangeSpec := { name := "affineOf", fn := fun _ => fun
  | [d] => { results := [.lit (.bool false)], args := [d] }
  | _ => none }
def AffineOfWrongFalsely : Prop := affineOfRow.holds Tryz.pinned (OpenSpec.ofChange affineOfWrong)

/-- 'spoondriftlaw07.AffineOrbits': WHATEVER THE INPUT: true; the input reads as it did. -/
def affineOrbitsSpec : ChangeSpec := { name := "affineOrbits", fn := fun _ => fun
  | [d] => { results := [.lit (.bool true)], args := [d] }
  | _ => none }
def affineOrbitsRow : OpenClaim := { program := "ytnmgahhceliphaagreatdoor", sum := "6e497540f996257a3799e22d63dbdccd0116e8e621d4785d60e49314ba9f80b6", func := "spoondrift/spoondriftlaw07.AffineOrbits", spec := "affineOrbits", unfollowed := true, recurses := true, named := ["spoondrift/circ.axes"], plainKeys := false, apart := false, laid := [("spoondrift/circ.axes", laid_spoondrift_circ_axes)] }
def AffineOrbitsSaid : Prop := affineOrbitsRow.holds Tryz.pinned (OpenSpec.ofChange affineOrbitsSpec)

/-- ITS FALSE NEIGHBOUR: 'it returns false'. Refute it at one input. -/
def affineOrbitsWrong : ChangeSpec := { name := "affineOrbits", fn := fun _ => fun
  | [d] => { results := [.lit (.bool false)], args := [d] }
  | _ => none }
def AffineOrbitsWrongFalsely : Prop := affineOrbitsRow.holds Tryz.pinned (OpenSpec.ofChange affineOrbitsWrong)

/-- 'spoondriftlaw07.AffineCircuits': WHATEVER THE INPUT: true; the input reads as it did. -/
def affineCircuitsSpec : ChangeSpec := { name := "affineCircuits", fn := fun _ => fun
  | [d] => { results := [.lit (.bool true)], args := [d] }
  | _ => none }
def affineCircuitsRow : OpenClaim := { program := "ytnmgahhceliphaagreatdoor", sum := "6e497540f996257a3799e22d63dbdccd0116e8e621d4785d60e49314ba9f80b6", func := "spoondrift/spoondriftlaw07.AffineCircuits", spec := "affineCircuits", unfollowed := true, recurses := true, named := ["spoondrift/circ.axes"], plainKeys := false, apart := false, laid := [("spoondrift/circ.axes", laid_spoondrift_circ_axes)] }
def AffineCircuitsSaid : Prop := affineCircuitsRow.holds Tryz.pinned (OpenSpec.ofChange affineCircuitsSpec)

/-- ITS FALSE NEIGHBOUR: 'it returns false'. Refute it at one input. -/
def affineCircuitsWrong : ChangeSpec := { name := "affineCircuits", fn := fun _ => fun
  | [d] => { results := [.lit (.bool false)], args := [d] }
  | _ => none }
def AffineCircuitsWrongFalsely : Prop := affineCircuitsRow.holds Tryz.pinned (OpenSpec.ofChange affineCircuitsWrong)

/-- 'spoondriftlaw07.AffineNumbers': WHATEVER THE INPUT: true; the input reads as it did. -/
def affineNumbersSpec : ChangeSpec := { name := "affineNumbers", fn := fun _ => fun
  | [d1, d2, d3] => { results := [.lit (.bool true)], args := [d1, d2, d3] }
  | _ => none }
def affineNumbersRow : OpenClaim := { program := "ytnmgahhceliphaagreatdoor", sum := "6e497540f996257a3799e22d63dbdccd0116e8e621d4785d60e49314ba9f80b6", func := "spoondrift/spoondriftlaw07.AffineNumbers", spec := "affineNumbers", unfollowed := true, recurses := true, named := ["spoondrift/circ.axes"], plainKeys := false, apart := false, laid := [("spoondrift/circ.axes", laid_spoondrift_circ_axes)] }
def AffineNumbersSaid : Prop := affineNumbersRow.holds Tryz.pinned (OpenSpec.ofChange affineNumbersSpec)

/-- ITS FALSE NEIGHBOUR: 'it returns false'. Refute it at one input. -/
def affineNumbersWrong : ChangeSpec := { name := "affineNumbers", fn := fun _ => fun
  | [d1, d2, d3] => { results := [.lit (.bool false)], args := [d1, d2, d3] }
  | _ => none }
def AffineNumbersWrongFalsely : Prop := affineNumbersRow.holds Tryz.pinned (OpenSpec.ofChange affineNumbersWrong)

/-- 'spoondriftlaw07.AffineProofs': WHATEVER THE INPUT: true; the input reads as it did. -/
def affineProofsSpec : ChangeSpec := { name := "affineProofs", fn := fun _ => fun
  | [d1, d2] => { results := [.lit (.bool true)], args := [d1, d2] }
  | _ => none }
def affineProofsRow : OpenClaim := { program := "ytnmgahhceliphaagreatdoor", sum := "6e497540f996257a3799e22d63dbdccd0116e8e621d4785d60e49314ba9f80b6", func := "spoondrift/spoondriftlaw07.AffineProofs", spec := "affineProofs", unfollowed := true, recurses := true, named := ["spoondrift/circ.axes"], plainKeys := false, apart := false, laid := [("spoondrift/circ.axes", laid_spoondrift_circ_axes)] }
def AffineProofsSaid : Prop := affineProofsRow.holds Tryz.pinned (OpenSpec.ofChange affineProofsSpec)

/-- ITS FALSE NEIGHBOUR: 'it returns false'. Refute it at one input. -/
def affineProofsWrong : ChangeSpec := { name := "affineProofs", fn := fun _ => fun
  | [d1, d2] => { results := [.lit (.bool false)], args := [d1, d2] }
  | _ => none }
def AffineProofsWrongFalsely : Prop := affineProofsRow.holds Tryz.pinned (OpenSpec.ofChange affineProofsWrong)

/-- 'spoondriftlaw07.AffineSmall': WHATEVER THE INPUT: true; the input reads as it did. -/
def affineSmallSpec : ChangeSpec := { name := "affineSmall", fn := fun _ => fun
  | [] => { results := [.lit (.bool true)], args := [] }
  | _ => none }
def affineSmallRow : OpenClaim := { program := "ytnmgahhceliphaagreatdoor", sum := "6e497540f996257a3799e22d63dbdccd0116e8e621d4785d60e49314ba9f80b6", func := "spoondrift/spoondriftlaw07.AffineSmall", spec := "affineSmall", unfollowed := true, recurses := true, named := ["spoondrift/circ.axes"], plainKeys := false, apart := false, laid := [("spoondrift/circ.axes", laid_spoondrift_circ_axes)] }
def AffineSmallSaid : Prop := affineSmallRow.holds Tryz.pinned (OpenSpec.ofChange affineSmallSpec)

/-- ITS FALSE NEIGHBOUR: 'it returns false'. Refute it at one input. -/
def affineSmallWrong : ChangeSpec := { name := "affineSmall", fn := fun _ => fun
  | [] => { results := [.lit (.bool false)], args := [] }
  | _ => none }
def AffineSmallWrongFalsely : Prop := affineSmallRow.holds Tryz.pinned (OpenSpec.ofChange affineSmallWrong)

/-- 'spoondriftlaw07.AffineStates': WHATEVER THE INPUT: true; the input reads as it did. -/
def affineStatesSpec : ChangeSpec := { name := "affineStates", fn := fun _ => fun
  | [d1, d2, d3] => { results := [.lit (.bool true)], args := [d1, d2, d3] }
  | _ => none }
def affineStatesRow : OpenClaim := { program := "ytnmgahhceliphaagreatdoor", sum := "6e497540f996257a3799e22d63dbdccd0116e8e621d4785d60e49314ba9f80b6", func := "spoondrift/spoondriftlaw07.AffineStates", spec := "affineStates", inPlace := ["slices.overlaps[int]"], unfollowed := true, recurses := true, named := ["spoondrift/spoondriftkit.Linear", "spoondrift/circ.axes"], plainKeys := false, apart := false, laid := [("spoondrift/circ.axes", laid_spoondrift_circ_axes), ("spoondrift/spoondriftkit.Linear", laid_spoondrift_spoondriftkit_Linear)] }
def AffineStatesSaid : Prop := affineStatesRow.holds Tryz.pinned (OpenSpec.ofChange affineStatesSpec)

/-- ITS FALSE NEIGHBOUR: 'it returns false'. Refute it at one input. -/
def affineStatesWrong : ChangeSpec := { name := "affineStates", fn := fun _ => fun
  | [d1, d2, d3] => { results := [.lit (.bool false)], args := [d1, d2, d3] }
  | _ => none }
def AffineStatesWrongFalsely : Prop := affineStatesRow.holds Tryz.pinned (OpenSpec.ofChange affineStatesWrong)

/-- 'spoondriftlaw07.AffineCanonical': WHATEVER THE INPUT: true; the input reads as it did. -/
def affineCanonicalSpec : ChangeSpec := { name := "affineCanonical", fn := fun _ => fun
  | [d1, d2, d3, d4] => { results := [.lit (.bool true)], args := [d1, d2, d3, d4] }
  | _ => none }
def affineCanonicalRow : OpenClaim := { program := "ytnmgahhceliphaagreatdoor", sum := "6e497540f996257a3799e22d63dbdccd0116e8e621d4785d60e49314ba9f80b6", func := "spoondrift/spoondriftlaw07.AffineCanonical", spec := "affineCanonical", inPlace := ["slices.overlaps[int]"], unfollowed := true, recurses := true, named := ["spoondrift/spoondriftkit.Linear", "spoondrift/circ.axes"], plainKeys := false, apart := false, laid := [("spoondrift/circ.axes", laid_spoondrift_circ_axes), ("spoondrift/spoondriftkit.Linear", laid_spoondrift_spoondriftkit_Linear)] }
def AffineCanonicalSaid : Prop := affineCanonicalRow.holds Tryz.pinned (OpenSpec.ofChange affineCanonicalSpec)

/-- ITS FALSE NEIGHBOUR: 'it returns false'. Refute it at one input. -/
def affineCanonicalWrong : ChangeSpec := { name := "affineCanonical", fn := fun _ => fun
  | [d1, d2, d3, d4] => { results := [.lit (.bool false)], args := [d1, d2, d3, d4] }
  | _ => none }
def AffineCanonicalWrongFalsely : Prop := affineCanonicalRow.holds Tryz.pinned (OpenSpec.ofChange affineCanonicalWrong)

/-- 'spoondriftlaw07.AffineGroup': WHATEVER THE INPUT: true; the input reads as it did. -/
def affineGroupSpec : ChangeSpec := { name := "affineGroup", fn := fun _ => fun
  | [d1, d2, d3, d4] => { results := [.lit (.bool true)], args := [d1, d2, d3, d4] }
  | _ => none }
def affineGroupRow : OpenClaim := { program := "ytnmgahhceliphaagreatdoor", sum := "6e497540f996257a3799e22d63dbdccd0116e8e621d4785d60e49314ba9f80b6", func := "spoondrift/spoondriftlaw07.AffineGroup", spec := "affineGroup", inPlace := ["slices.overlaps[int]"], unfollowed := true, recurses := true, named := ["spoondrift/spoondriftkit.Linear", "spoondrift/circ.axes"], plainKeys := false, apart := false, laid := [("spoondrift/circ.axes", laid_spoondrift_circ_axes), ("spoondrift/spoondriftkit.Linear", laid_spoondrift_spoondriftkit_Linear)] }
def AffineGroupSaid : Prop := affineGroupRow.holds Tryz.pinned (OpenSpec.ofChange affineGroupSpec)

/-- ITS FALSE NEIGHBOUR: 'it returns false'. Refute it at one input. -/
def affineGroupWrong : ChangeSpec := { name := "affineGroup", fn := fun _ => fun
  | [d1, d2, d3, d4] => { results := [.lit (.bool false)], args := [d1, d2, d3, d4] }
  | _ => none }
def AffineGroupWrongFalsely : Prop := affineGroupRow.holds Tryz.pinned (OpenSpec.ofChange affineGroupWrong)

/-- 'spoondriftlaw07.AffineFixed': WHATEVER THE INPUT: true; the input reads as it did. -/
def affineFixedSpec : ChangeSpec := { name := "affineFixed", fn := fun _ => fun
  | [d1, d2] => { results := [.lit (.bool true)], args := [d1, d2] }
  | _ => none }
def affineFixedRow : OpenClaim := { program := "ytnmgahhceliphaagreatdoor", sum := "6e497540f996257a3799e22d63dbdccd0116e8e621d4785d60e49314ba9f80b6", func := "spoondrift/spoondriftlaw07.AffineFixed", spec := "affineFixed", inPlace := ["slices.overlaps[int]"], unfollowed := true, recurses := true, named := ["spoondrift/spoondriftkit.Linear", "spoondrift/circ.axes"], plainKeys := false, apart := false, laid := [("spoondrift/circ.axes", laid_spoondrift_circ_axes), ("spoondrift/spoondriftkit.Linear", laid_spoondrift_spoondriftkit_Linear)] }
def AffineFixedSaid : Prop := affineFixedRow.holds Tryz.pinned (OpenSpec.ofChange affineFixedSpec)

/-- ITS FALSE NEIGHBOUR: 'it returns false'. Refute it at one input. -/
def affineFixedWrong : ChangeSpec := { name := "affineFixed", fn := fun _ => fun
  | [d1, d2] => { results := [.lit (.bool false)], args := [d1, d2] }
  | _ => none }
def AffineFixedWrongFalsely : Prop := affineFixedRow.holds Tryz.pinned (OpenSpec.ofChange affineFixedWrong)

/-- 'spoondriftlaw07.AffineLeast': WHATEVER THE INPUT: true; the input reads as it did. -/
def affineLeastSpec : ChangeSpec := { name := "affineLeast", fn := fun _ => fun
  | [d1, d2, d3] => { results := [.lit (.bool true)], args := [d1, d2, d3] }
  | _ => none }
def affineLeastRow : OpenClaim := { program := "ytnmgahhceliphaagreatdoor", sum := "6e497540f996257a3799e22d63dbdccd0116e8e621d4785d60e49314ba9f80b6", func := "spoondrift/spoondriftlaw07.AffineLeast", spec := "affineLeast", inPlace := ["slices.overlaps[int]"], unfollowed := true, recurses := true, named := ["spoondrift/spoondriftkit.Linear", "spoondrift/circ.axes"], plainKeys := false, apart := false, laid := [("spoondrift/circ.axes", laid_spoondrift_circ_axes), ("spoondrift/spoondriftkit.Linear", laid_spoondrift_spoondriftkit_Linear)] }
def AffineLeastSaid : Prop := affineLeastRow.holds Tryz.pinned (OpenSpec.ofChange affineLeastSpec)

/-- ITS FALSE NEIGHBOUR: 'it returns false'. Refute it at one input. -/
def affineLeastWrong : ChangeSpec := { name := "affineLeast", fn := fun _ => fun
  | [d1, d2, d3] => { results := [.lit (.bool false)], args := [d1, d2, d3] }
  | _ => none }
def AffineLeastWrongFalsely : Prop := affineLeastRow.holds Tryz.pinned (OpenSpec.ofChange affineLeastWrong)

/-- 'spoondriftlaw07.AffineNumbered': WHATEVER THE INPUT: true; the input reads as it did. -/
def affineNumberedSpec : ChangeSpec := { name := "affineNumbered", fn := fun _ => fun
  | [d1, d2, d3] => { results := [.lit (.bool true)], args := [d1, d2, d3] }
  | _ => none }
def affineNumberedRow : OpenClaim := { program := "ytnmgahhceliphaagreatdoor", sum := "6e497540f996257a3799e22d63dbdccd0116e8e621d4785d60e49314ba9f80b6", func := "spoondrift/spoondriftlaw07.AffineNumbered", spec := "affineNumbered", unfollowed := true, recurses := true, named := ["spoondrift/circ.axes"], plainKeys := false, apart := false, laid := [("spoondrift/circ.axes", laid_spoondrift_circ_axes)] }
def AffineNumberedSaid : Prop := affineNumberedRow.holds Tryz.pinned (OpenSpec.ofChange affineNumberedSpec)

/-- ITS FALSE NEIGHBOUR: 'it returns false'. Refute it at one input. -/
def affineNumberedWrong : ChangeSpec := { name := "affineNumbered", fn := fun _ => fun
  | [d1, d2, d3] => { results := [.lit (.bool false)], args := [d1, d2, d3] }
  | _ => none }
def AffineNumberedWrongFalsely : Prop := affineNumberedRow.holds Tryz.pinned (OpenSpec.ofChange affineNumberedWrong)

/- THE SECOND FORM. 'bulk': how many values and letters a reading holds, each counted each time it is reached (what is shared counts as often as it is met; a slice's spare places count too). A statement '..UptoSaid' is the law's where the arguments, and the package variables that the reading takes, are together of bulk at most 1048576: NARROWER than '..Said'. Prove '..Said' where nothing that the law and all that it calls make is longer than what came in: it says more and counts as full. Else prove '..UptoSaid'. A law counts once. -/
mutual
def uptoBulk {H : Type} : DataW H → Nat
  | .lit (.string bytes) => bytes.length + 1
  | .lit _ => 1
  | .nil => 1
  | .ptr d => uptoBulk d + 1
  | .slice elems spare => uptoBulkAll elems + uptoBulkAll spare + 1
  | .agg parts => uptoBulkAll parts + 1
  | .iface _ d => uptoBulk d + 1
  | .map entries => uptoBulkEntries entries + 1
  | .held _ => 1
def uptoBulkAll {H : Type} : List (DataW H) → Nat
  | [] => 0
  | d :: r => uptoBulk d + uptoBulkAll r
def uptoBulkEntries {H : Type} : List (Lit × DataW H) → Nat
  | [] => 0
  | x :: r => uptoBulkEntry x + uptoBulkEntries r
def uptoBulkEntry {H : Type} : Lit × DataW H → Nat
  | (.string bytes, d) => bytes.length + uptoBulk d + 1
  | (_, d) => uptoBulk d + 1
 end
def uptoSmall : (H : Type) → List (DataW H) → Bool := fun _ ds => decide (uptoBulkAll ds ≤ 1048576)
def OpenSpec.upto (s : _root_.Go.ChangeSpec) : _root_.Go.OpenSpec := { _root_.Go.OpenSpec.ofChange s with cond := some uptoSmall }

/-- 'spoondriftlaw07.AffineMaps', WHERE WHAT IT READS IS OF BULK AT MOST 1048576: true; the input reads as it did. -/
def affineMapsUptoRow : OpenClaim := { program := "ytnmgahhceliphaagreatdoor", sum := "6e497540f996257a3799e22d63dbdccd0116e8e621d4785d60e49314ba9f80b6", func := "spoondrift/spoondriftlaw07.AffineMaps", spec := "affineMaps", unfollowed := true, recurses := true, named := ["spoondrift/circ.axes"], plainKeys := false, apart := false, laid := [("spoondrift/circ.axes", laid_spoondrift_circ_axes)], narrowed := true }
def AffineMapsUptoSaid : Prop := affineMapsUptoRow.holds Tryz.pinned (OpenSpec.upto affineMapsSpec)

/-- 'spoondriftlaw07.AffineOf', WHERE WHAT IT READS IS OF BULK AT MOST 1048576: true; the input reads as it did. -/
def affineOfUptoRow : OpenClaim := { program := "ytnmgahhceliphaagreatdoor", sum := "6e497540f996257a3799e22d63dbdccd0116e8e621d4785d60e49314ba9f80b6", func := "spoondrift/spoondriftlaw07.AffineOf", spec := "affineOf", unfollowed := true, recurses := true, named := ["spoondrift/circ.axes"], plainKeys := false, apart := false, laid := [("spoondrift/circ.axes", laid_spoondrift_circ_axes)], narrowed := true }
def AffineOfUptoSaid : Prop := affineOfUptoRow.holds Tryz.pinned (OpenSpec.upto affineOfSpec)

/-- 'spoondriftlaw07.AffineOrbits', WHERE WHAT IT READS IS OF BULK AT MOST 1048576: true; the input reads as it did. -/
def affineOrbitsUptoRow : OpenClaim := { program := "ytnmgahhceliphaagreatdoor", sum := "6e497540f996257a3799e22d63dbdccd0116e8e621d4785d60e49314ba9f80b6", func := "spoondrift/spoondriftlaw07.AffineOrbits", spec := "affineOrbits", unfollowed := true, recurses := true, named := ["spoondrift/circ.axes"], plainKeys := false, apart := false, laid := [("spoondrift/circ.axes", laid_spoondrift_circ_axes)], narrowed := true }
def AffineOrbitsUptoSaid : Prop := affineOrbitsUptoRow.holds Tryz.pinned (OpenSpec.upto affineOrbitsSpec)

/-- 'spoondriftlaw07.AffineCircuits', WHERE WHAT IT READS IS OF BULK AT MOST 1048576: true; the input reads as it did. -/
def affineCircuitsUptoRow : OpenClaim := { program := "ytnmgahhceliphaagreatdoor", sum := "6e497540f996257a3799e22d63dbdccd0116e8e621d4785d60e49314ba9f80b6", func := "spoondrift/spoondriftlaw07.AffineCircuits", spec := "affineCircuits", unfollowed := true, recurses := true, named := ["spoondrift/circ.axes"], plainKeys := false, apart := false, laid := [("spoondrift/circ.axes", laid_spoondrift_circ_axes)], narrowed := true }
def AffineCircuitsUptoSaid : Prop := affineCircuitsUptoRow.holds Tryz.pinned (OpenSpec.upto affineCircuitsSpec)

/-- 'spoondriftlaw07.AffineNumbers', WHERE WHAT IT READS IS OF BULK AT MOST 1048576: true; the input reads as it did. -/
def affineNumbersUptoRow : OpenClaim := { program := "ytnmgahhceliphaagreatdoor", sum := "6e497540f996257a3799e22d63dbdccd0116e8e621d4785d60e49314ba9f80b6", func := "spoondrift/spoondriftlaw07.AffineNumbers", spec := "affineNumbers", unfollowed := true, recurses := true, named := ["spoondrift/circ.axes"], plainKeys := false, apart := false, laid := [("spoondrift/circ.axes", laid_spoondrift_circ_axes)], narrowed := true }
def AffineNumbersUptoSaid : Prop := affineNumbersUptoRow.holds Tryz.pinned (OpenSpec.upto affineNumbersSpec)

/-- 'spoondriftlaw07.AffineProofs', WHERE WHAT IT READS IS OF BULK AT MOST 1048576: true; the input reads as it did. -/
def affineProofsUptoRow : OpenClaim := { program := "ytnmgahhceliphaagreatdoor", sum := "6e497540f996257a3799e22d63dbdccd0116e8e621d4785d60e49314ba9f80b6", func := "spoondrift/spoondriftlaw07.AffineProofs", spec := "affineProofs", unfollowed := true, recurses := true, named := ["spoondrift/circ.axes"], plainKeys := false, apart := false, laid := [("spoondrift/circ.axes", laid_spoondrift_circ_axes)], narrowed := true }
def AffineProofsUptoSaid : Prop := affineProofsUptoRow.holds Tryz.pinned (OpenSpec.upto affineProofsSpec)

/-- 'spoondriftlaw07.AffineSmall', WHERE WHAT IT READS IS OF BULK AT MOST 1048576: true; the input reads as it did. -/
def affineSmallUptoRow : OpenClaim := { program := "ytnmgahhceliphaagreatdoor", sum := "6e497540f996257a3799e22d63dbdccd0116e8e621d4785d60e49314ba9f80b6", func := "spoondrift/spoondriftlaw07.AffineSmall", spec := "affineSmall", unfollowed := true, recurses := true, named := ["spoondrift/circ.axes"], plainKeys := false, apart := false, laid := [("spoondrift/circ.axes", laid_spoondrift_circ_axes)], narrowed := true }
def AffineSmallUptoSaid : Prop := affineSmallUptoRow.holds Tryz.pinned (OpenSpec.upto affineSmallSpec)

/-- 'spoondriftlaw07.AffineStates', WHERE WHAT IT READS IS OF BULK AT MOST 1048576: true; the input reads as it did. -/
def affineStatesUptoRow : OpenClaim := { program := "ytnmgahhceliphaagreatdoor", sum := "6e497540f996257a3799e22d63dbdccd0116e8e621d4785d60e49314ba9f80b6", func := "spoondrift/spoondriftlaw07.AffineStates", spec := "affineStates", inPlace := ["slices.overlaps[int]"], unfollowed := true, recurses := true, named := ["spoondrift/spoondriftkit.Linear", "spoondrift/circ.axes"], plainKeys := false, apart := false, laid := [("spoondrift/circ.axes", laid_spoondrift_circ_axes), ("spoondrift/spoondriftkit.Linear", laid_spoondrift_spoondriftkit_Linear)], narrowed := true }
def AffineStatesUptoSaid : Prop := affineStatesUptoRow.holds Tryz.pinned (OpenSpec.upto affineStatesSpec)

/-- 'spoondriftlaw07.AffineCanonical', WHERE WHAT IT READS IS OF BULK AT MOST 1048576: true; the input reads as it did. -/
def affineCanonicalUptoRow : OpenClaim := { program := "ytnmgahhceliphaagreatdoor", sum := "6e497540f996257a3799e22d63dbdccd0116e8e621d4785d60e49314ba9f80b6", func := "spoondrift/spoondriftlaw07.AffineCanonical", spec := "affineCanonical", inPlace := ["slices.overlaps[int]"], unfollowed := true, recurses := true, named := ["spoondrift/spoondriftkit.Linear", "spoondrift/circ.axes"], plainKeys := false, apart := false, laid := [("spoondrift/circ.axes", laid_spoondrift_circ_axes), ("spoondrift/spoondriftkit.Linear", laid_spoondrift_spoondriftkit_Linear)], narrowed := true }
def AffineCanonicalUptoSaid : Prop := affineCanonicalUptoRow.holds Tryz.pinned (OpenSpec.upto affineCanonicalSpec)

/-- 'spoondriftlaw07.AffineGroup', WHERE WHAT IT READS IS OF BULK AT MOST 1048576: true; the input reads as it did. -/
def affineGroupUptoRow : OpenClaim := { program := "ytnmgahhceliphaagreatdoor", sum := "6e497540f996257a3799e22d63dbdccd0116e8e621d4785d60e49314ba9f80b6", func := "spoondrift/spoondriftlaw07.AffineGroup", spec := "affineGroup", inPlace := ["slices.overlaps[int]"], unfollowed := true, recurses := true, named := ["spoondrift/spoondriftkit.Linear", "spoondrift/circ.axes"], plainKeys := false, apart := false, laid := [("spoondrift/circ.axes", laid_spoondrift_circ_axes), ("spoondrift/spoondriftkit.Linear", laid_spoondrift_spoondriftkit_Linear)], narrowed := true }
def AffineGroupUptoSaid : Prop := affineGroupUptoRow.holds Tryz.pinned (OpenSpec.upto affineGroupSpec)

/-- 'spoondriftlaw07.AffineFixed', WHERE WHAT IT READS IS OF BULK AT MOST 1048576: true; the input reads as it did. -/
def affineFixedUptoRow : OpenClaim := { program := "ytnmgahhceliphaagreatdoor", sum := "6e497540f996257a3799e22d63dbdccd0116e8e621d4785d60e49314ba9f80b6", func := "spoondrift/spoondriftlaw07.AffineFixed", spec := "affineFixed", inPlace := ["slices.overlaps[int]"], unfollowed := true, recurses := true, named := ["spoondrift/spoondriftkit.Linear", "spoondrift/circ.axes"], plainKeys := false, apart := false, laid := [("spoondrift/circ.axes", laid_spoondrift_circ_axes), ("spoondrift/spoondriftkit.Linear", laid_spoondrift_spoondriftkit_Linear)], narrowed := true }
def AffineFixedUptoSaid : Prop := affineFixedUptoRow.holds Tryz.pinned (OpenSpec.upto affineFixedSpec)

/-- 'spoondriftlaw07.AffineLeast', WHERE WHAT IT READS IS OF BULK AT MOST 1048576: true; the input reads as it did. -/
def affineLeastUptoRow : OpenClaim := { program := "ytnmgahhceliphaagreatdoor", sum := "6e497540f996257a3799e22d63dbdccd0116e8e621d4785d60e49314ba9f80b6", func := "spoondrift/spoondriftlaw07.AffineLeast", spec := "affineLeast", inPlace := ["slices.overlaps[int]"], unfollowed := true, recurses := true, named := ["spoondrift/spoondriftkit.Linear", "spoondrift/circ.axes"], plainKeys := false, apart := false, laid := [("spoondrift/circ.axes", laid_spoondrift_circ_axes), ("spoondrift/spoondriftkit.Linear", laid_spoondrift_spoondriftkit_Linear)], narrowed := true }
def AffineLeastUptoSaid : Prop := affineLeastUptoRow.holds Tryz.pinned (OpenSpec.upto affineLeastSpec)

/-- 'spoondriftlaw07.AffineNumbered', WHERE WHAT IT READS IS OF BULK AT MOST 1048576: true; the input reads as it did. -/
def affineNumberedUptoRow : OpenClaim := { program := "ytnmgahhceliphaagreatdoor", sum := "6e497540f996257a3799e22d63dbdccd0116e8e621d4785d60e49314ba9f80b6", func := "spoondrift/spoondriftlaw07.AffineNumbered", spec := "affineNumbered", unfollowed := true, recurses := true, named := ["spoondrift/circ.axes"], plainKeys := false, apart := false, laid := [("spoondrift/circ.axes", laid_spoondrift_circ_axes)], narrowed := true }
def AffineNumberedUptoSaid : Prop := affineNumberedUptoRow.holds Tryz.pinned (OpenSpec.upto affineNumberedSpec)

end Rows
end Go.Proofs.YtnmgahhceliphaaGreatDoor
