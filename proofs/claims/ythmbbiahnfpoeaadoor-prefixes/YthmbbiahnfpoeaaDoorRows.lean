/-
  NARROWER THAN 'FOR EVERY INPUT', by the rows' own cells (each row's printed sentence says how): Checks: laid · Counts: laid · Replays: laid · Tree: laid · Prefixes: laid · Prefixed: laid.
  DERIVED. THE GIVEN ROWS OF THIS SEAT. 6 by the template 'for every input the law returns true; each argument reads behind the call as it read before'; 0 by the template 'total and deterministic' (their statements: YthmbbiahnfpoeaaDoorTotals.lean).
  GIVEN WITH THE SEED: the statements are not yours to turn. If you find one false, say at which input.
  Laid BY PROGRAM, IN A SANDBOX (cutbox-rows.mjs): the forced cells as the released guide's own fill.sh prints them over the translation 4c3c7924275c42c6… (all of the seat's roots in one cut). By AI agents, Wed Nov 11 2026. No macro, syntax, notation, axiom, sorry.
-/
import Derived.Test.YthmbbiahnfpoeaaDoorChecked
import GoSem.Claim
import GoSem.ClaimJoined
import GoSem.ClaimMapViews
import Derived.JoinedTies
import Derived.KernelRfl
namespace Go.Proofs.YthmbbiahnfpoeaaDoor
/- THE CELL 'sum', in the pinned program and in every row, IS THE sha256 OF THE DUMP (.gsa) THAT YthmbbiahnfpoeaaDoorProg.lean LOADS. Nothing in Lean hashes anything: it is a label: what it is worth is what the hold of that sum in a sandbox is worth. -/
noncomputable def Tryd.pinned : Pinned := { name := "ythmbbiahnfpoeaadoor", sum := "4c3c7924275c42c6a18337db58bd61c3da37bab465cc70a334a74fd39b424f42", checked := Tryd.checked }
namespace Rows
def none {H : Type} : Left H := { results := [], args := [] }

/- WHAT THE LISTED PACKAGE-LEVEL VARIABLES READ AS WHEN THE CALL BEGINS. Each datum BY PROGRAM (the guide's laid-datum.mjs) off the statement by which the dump's own 'gosem.cut.vars' lays the variable. In a bare row this is a premise. The card (YthmbbiahnfpoeaaDoorCards.lean) ties it to the program's text. -/
def laid_errors_errorType {H : Type} : DataW H := .iface "internal/reflectlite.rtype" (.agg [.ptr (.lit (.string [101, 114, 114, 111, 114]))])
def laid_shift_fault_Long {H : Type} : DataW H := .iface "*errors.errorString" (.ptr (.agg [.lit (.string [108, 111, 110, 103, 101, 114, 32, 116, 104, 97, 110, 32, 105, 116, 32, 109, 97, 121, 32, 98, 101])]))
def laid_shift_fault_Text {H : Type} : DataW H := .iface "*errors.errorString" (.ptr (.agg [.lit (.string [110, 111, 32, 103, 114, 97, 109, 109, 97, 114, 32, 103, 111, 101, 115, 32, 111, 110, 32, 108, 105, 107, 101, 32, 116, 104, 105, 115])]))
def laid_shift_fault_Name {H : Type} : DataW H := .iface "*errors.errorString" (.ptr (.agg [.lit (.string [97, 32, 110, 97, 109, 101, 32, 116, 104, 97, 116, 32, 110, 111, 32, 114, 117, 108, 101, 32, 104, 97, 115])]))
def laid_shift_fault_Barren {H : Type} : DataW H := .iface "*errors.errorString" (.ptr (.agg [.lit (.string [97, 32, 110, 97, 109, 101, 32, 119, 105, 116, 104, 111, 117, 116, 32, 116, 114, 101, 101, 115])]))
def laid_shift_fault_Letter {H : Type} : DataW H := .iface "*errors.errorString" (.ptr (.agg [.lit (.string [110, 111, 32, 108, 101, 116, 116, 101, 114])]))
def laid_shift_fault_Table {H : Type} : DataW H := .iface "*errors.errorString" (.ptr (.agg [.lit (.string [110, 111, 32, 115, 116, 97, 116, 101, 32, 105, 115, 32, 119, 114, 105, 116, 116, 101, 110, 32, 108, 105, 107, 101, 32, 116, 104, 105, 115])]))
def laid_shift_fault_Item {H : Type} : DataW H := .iface "*errors.errorString" (.ptr (.agg [.lit (.string [97, 110, 32, 105, 116, 101, 109, 32, 111, 114, 32, 97, 110, 32, 101, 100, 103, 101, 32, 116, 104, 97, 116, 32, 99, 97, 110, 110, 111, 116, 32, 98, 101])]))
def laid_shift_fault_Start {H : Type} : DataW H := .iface "*errors.errorString" (.ptr (.agg [.lit (.string [110, 111, 32, 115, 116, 97, 116, 101, 32, 116, 111, 32, 98, 101, 103, 105, 110, 32, 105, 110])]))
def laid_shift_fault_Closed {H : Type} : DataW H := .iface "*errors.errorString" (.ptr (.agg [.lit (.string [97, 110, 32, 105, 116, 101, 109, 32, 105, 115, 32, 109, 105, 115, 115, 105, 110, 103])]))
def laid_shift_fault_Edge {H : Type} : DataW H := .iface "*errors.errorString" (.ptr (.agg [.lit (.string [97, 110, 32, 101, 100, 103, 101, 32, 105, 115, 32, 109, 105, 115, 115, 105, 110, 103, 44, 32, 111, 114, 32, 111, 110, 101, 32, 116, 111, 111, 32, 109, 97, 110, 121])]))
def laid_shift_fault_Reason {H : Type} : DataW H := .iface "*errors.errorString" (.ptr (.agg [.lit (.string [97, 110, 32, 105, 116, 101, 109, 32, 119, 105, 116, 104, 111, 117, 116, 32, 97, 32, 114, 101, 97, 115, 111, 110])]))
def laid_shift_fault_Clash {H : Type} : DataW H := .iface "*errors.errorString" (.ptr (.agg [.lit (.string [116, 119, 111, 32, 116, 104, 105, 110, 103, 115, 32, 116, 111, 32, 100, 111])]))
def laid_shift_fault_None {H : Type} : DataW H := .iface "*errors.errorString" (.ptr (.agg [.lit (.string [110, 111, 32, 116, 97, 98, 108, 101, 32, 105, 115, 32, 102, 111, 114, 32, 105, 116])]))
def laid_shift_fault_Reject {H : Type} : DataW H := .iface "*errors.errorString" (.ptr (.agg [.lit (.string [110, 111, 32, 119, 111, 114, 100, 32, 103, 111, 101, 115, 32, 111, 110, 32, 108, 105, 107, 101, 32, 116, 104, 105, 115])]))

/-- 'shiftlaw.Checks': WHATEVER THE INPUT: true; the input reads as it did. -/
def checksSpec : ChangeSpec := { name := "checks", fn := fun _ => fun
  | [d] => { results := [.lit (.bool true)], args := [d] }
  | _ => none }
def checksRow : OpenClaim := { program := "ythmbbiahnfpoeaadoor", sum := "4c3c7924275c42c6a18337db58bd61c3da37bab465cc70a334a74fd39b424f42", func := "shift/shiftlaw.Checks", spec := "checks", inPlace := ["internal/reflectlite.TypeOf", "internal/reflectlite.ValueOf", "(internal/reflectlite.Value).Type", "(internal/reflectlite.Value).IsNil", "(internal/reflectlite.Value).Elem", "(internal/reflectlite.Value).Set"], unfollowed := true, recurses := true, named := ["shift/fault.Long", "shift/fault.Text", "shift/fault.Name", "shift/fault.Barren", "shift/fault.Letter", "shift/fault.Table", "shift/fault.Item", "shift/fault.Start", "shift/fault.Closed", "shift/fault.Edge", "shift/fault.Reason", "shift/fault.Clash", "shift/fault.None", "shift/fault.Reject", "errors.errorType"], apart := false, laid := [("errors.errorType", laid_errors_errorType), ("shift/fault.Long", laid_shift_fault_Long), ("shift/fault.Text", laid_shift_fault_Text), ("shift/fault.Name", laid_shift_fault_Name), ("shift/fault.Barren", laid_shift_fault_Barren), ("shift/fault.Letter", laid_shift_fault_Letter), ("shift/fault.Table", laid_shift_fault_Table), ("shift/fault.Item", laid_shift_fault_Item), ("shift/fault.Start", laid_shift_fault_Start), ("shift/fault.Closed", laid_shift_fault_Closed), ("shift/fault.Edge", laid_shift_fault_Edge), ("shift/fault.Reason", laid_shift_fault_Reason), ("shift/fault.Clash", laid_shift_fault_Clash), ("shift/fault.None", laid_shift_fault_None), ("shift/fault.Reject", laid_shift_fault_Reject)] }
def ChecksSaid : Prop := checksRow.holds Tryd.pinned (OpenSpec.ofChange checksSpec)

/-- ITS FALSE NEIGHBOUR: 'it returns false'. Refute it at one input. -/
def checksWrong : ChangeSpec := { name := "checks", fn := fun _ => fun
  | [d] => { results := [.lit (.bool false)], args := [d] }
  | _ => none }
def ChecksWrongFalsely : Prop := checksRow.holds Tryd.pinned (OpenSpec.ofChange checksWrong)

/-- 'shiftlaw.Counts': WHATEVER THE INPUT: true; the input reads as it did. -/
def countsSpec : ChangeSpec := { name := "counts", fn := fun _ => fun
  | [d1, d2] => { results := [.lit (.bool true)], args := [d1, d2] }
  | _ => none }
def countsRow : OpenClaim := { program := "ythmbbiahnfpoeaadoor", sum := "4c3c7924275c42c6a18337db58bd61c3da37bab465cc70a334a74fd39b424f42", func := "shift/shiftlaw.Counts", spec := "counts", inPlace := ["internal/reflectlite.TypeOf", "internal/reflectlite.ValueOf", "(internal/reflectlite.Value).Type", "(internal/reflectlite.Value).IsNil", "(internal/reflectlite.Value).Elem", "(internal/reflectlite.Value).Set"], unfollowed := true, recurses := true, named := ["shift/fault.Long", "shift/fault.Text", "shift/fault.Name", "shift/fault.Barren", "shift/fault.Letter", "shift/fault.Table", "shift/fault.Item", "shift/fault.Start", "shift/fault.Closed", "shift/fault.Edge", "shift/fault.Reason", "shift/fault.Clash", "shift/fault.None", "shift/fault.Reject", "errors.errorType"], apart := false, laid := [("errors.errorType", laid_errors_errorType), ("shift/fault.Long", laid_shift_fault_Long), ("shift/fault.Text", laid_shift_fault_Text), ("shift/fault.Name", laid_shift_fault_Name), ("shift/fault.Barren", laid_shift_fault_Barren), ("shift/fault.Letter", laid_shift_fault_Letter), ("shift/fault.Table", laid_shift_fault_Table), ("shift/fault.Item", laid_shift_fault_Item), ("shift/fault.Start", laid_shift_fault_Start), ("shift/fault.Closed", laid_shift_fault_Closed), ("shift/fault.Edge", laid_shift_fault_Edge), ("shift/fault.Reason", laid_shift_fault_Reason), ("shift/fault.Clash", laid_shift_fault_Clash), ("shift/fault.None", laid_shift_fault_None), ("shift/fault.Reject", laid_shift_fault_Reject)] }
def CountsSaid : Prop := countsRow.holds Tryd.pinned (OpenSpec.ofChange countsSpec)

/-- ITS FALSE NEIGHBOUR: 'it returns false'. Refute it at one input. -/
def countsWrong : ChangeSpec := { name := "counts", fn := fun _ => fun
  | [d1, d2] => { results := [.lit (.bool false)], args := [d1, d2] }
  | _ => none }
def CountsWrongFalsely : Prop := countsRow.holds Tryd.pinned (OpenSpec.ofChange countsWrong)

/-- 'shiftlaw.Replays': WHATEVER THE INPUT: true; the input reads as it did. -/
def replaysSpec : ChangeSpec := { name := "replays", fn := fun _ => fun
  | [d1, d2] => { results := [.lit (.bool true)], args := [d1, d2] }
  | _ => none }
def replaysRow : OpenClaim := { program := "ythmbbiahnfpoeaadoor", sum := "4c3c7924275c42c6a18337db58bd61c3da37bab465cc70a334a74fd39b424f42", func := "shift/shiftlaw.Replays", spec := "replays", inPlace := ["internal/reflectlite.TypeOf", "internal/reflectlite.ValueOf", "(internal/reflectlite.Value).Type", "(internal/reflectlite.Value).IsNil", "(internal/reflectlite.Value).Elem", "(internal/reflectlite.Value).Set"], unfollowed := true, recurses := true, named := ["shift/fault.Long", "shift/fault.Text", "shift/fault.Name", "shift/fault.Barren", "shift/fault.Letter", "shift/fault.Table", "shift/fault.Item", "shift/fault.Start", "shift/fault.Closed", "shift/fault.Edge", "shift/fault.Reason", "shift/fault.Clash", "shift/fault.None", "shift/fault.Reject", "errors.errorType"], apart := false, laid := [("errors.errorType", laid_errors_errorType), ("shift/fault.Long", laid_shift_fault_Long), ("shift/fault.Text", laid_shift_fault_Text), ("shift/fault.Name", laid_shift_fault_Name), ("shift/fault.Barren", laid_shift_fault_Barren), ("shift/fault.Letter", laid_shift_fault_Letter), ("shift/fault.Table", laid_shift_fault_Table), ("shift/fault.Item", laid_shift_fault_Item), ("shift/fault.Start", laid_shift_fault_Start), ("shift/fault.Closed", laid_shift_fault_Closed), ("shift/fault.Edge", laid_shift_fault_Edge), ("shift/fault.Reason", laid_shift_fault_Reason), ("shift/fault.Clash", laid_shift_fault_Clash), ("shift/fault.None", laid_shift_fault_None), ("shift/fault.Reject", laid_shift_fault_Reject)] }
def ReplaysSaid : Prop := replaysRow.holds Tryd.pinned (OpenSpec.ofChange replaysSpec)

/-- ITS FALSE NEIGHBOUR: 'it returns false'. Refute it at one input. -/
def replaysWrong : ChangeSpec := { name := "replays", fn := fun _ => fun
  | [d1, d2] => { results := [.lit (.bool false)], args := [d1, d2] }
  | _ => none }
def ReplaysWrongFalsely : Prop := replaysRow.holds Tryd.pinned (OpenSpec.ofChange replaysWrong)

/-- 'shiftlaw.Tree': WHATEVER THE INPUT: true; the input reads as it did. -/
def treeSpec : ChangeSpec := { name := "tree", fn := fun _ => fun
  | [d1, d2] => { results := [.lit (.bool true)], args := [d1, d2] }
  | _ => none }
def treeRow : OpenClaim := { program := "ythmbbiahnfpoeaadoor", sum := "4c3c7924275c42c6a18337db58bd61c3da37bab465cc70a334a74fd39b424f42", func := "shift/shiftlaw.Tree", spec := "tree", inPlace := ["internal/reflectlite.TypeOf", "internal/reflectlite.ValueOf", "(internal/reflectlite.Value).Type", "(internal/reflectlite.Value).IsNil", "(internal/reflectlite.Value).Elem", "(internal/reflectlite.Value).Set"], unfollowed := true, recurses := true, named := ["shift/fault.Long", "shift/fault.Text", "shift/fault.Name", "shift/fault.Barren", "shift/fault.Letter", "shift/fault.Table", "shift/fault.Item", "shift/fault.Start", "shift/fault.Closed", "shift/fault.Edge", "shift/fault.Reason", "shift/fault.Clash", "shift/fault.None", "shift/fault.Reject", "errors.errorType"], apart := false, laid := [("errors.errorType", laid_errors_errorType), ("shift/fault.Long", laid_shift_fault_Long), ("shift/fault.Text", laid_shift_fault_Text), ("shift/fault.Name", laid_shift_fault_Name), ("shift/fault.Barren", laid_shift_fault_Barren), ("shift/fault.Letter", laid_shift_fault_Letter), ("shift/fault.Table", laid_shift_fault_Table), ("shift/fault.Item", laid_shift_fault_Item), ("shift/fault.Start", laid_shift_fault_Start), ("shift/fault.Closed", laid_shift_fault_Closed), ("shift/fault.Edge", laid_shift_fault_Edge), ("shift/fault.Reason", laid_shift_fault_Reason), ("shift/fault.Clash", laid_shift_fault_Clash), ("shift/fault.None", laid_shift_fault_None), ("shift/fault.Reject", laid_shift_fault_Reject)] }
def TreeSaid : Prop := treeRow.holds Tryd.pinned (OpenSpec.ofChange treeSpec)

/-- ITS FALSE NEIGHBOUR: 'it returns false'. Refute it at one input. -/
def treeWrong : ChangeSpec := { name := "tree", fn := fun _ => fun
  | [d1, d2] => { results := [.lit (.bool false)], args := [d1, d2] }
  | _ => none }
def TreeWrongFalsely : Prop := treeRow.holds Tryd.pinned (OpenSpec.ofChange treeWrong)

/-- 'shiftlaw.Prefixes': WHATEVER THE INPUT: true; the input reads as it did. -/
def prefixesSpec : ChangeSpec := { name := "prefixes", fn := fun _ => fun
  | [d1, d2] => { results := [.lit (.bool true)], args := [d1, d2] }
  | _ => none }
def prefixesRow : OpenClaim := { program := "ythmbbiahnfpoeaadoor", sum := "4c3c7924275c42c6a18337db58bd61c3da37bab465cc70a334a74fd39b424f42", func := "shift/shiftlaw.Prefixes", spec := "prefixes", inPlace := ["internal/reflectlite.TypeOf", "internal/reflectlite.ValueOf", "(internal/reflectlite.Value).Type", "(internal/reflectlite.Value).IsNil", "(internal/reflectlite.Value).Elem", "(internal/reflectlite.Value).Set"], unfollowed := true, recurses := true, named := ["shift/fault.Long", "shift/fault.Text", "shift/fault.Name", "shift/fault.Barren", "shift/fault.Letter", "shift/fault.Table", "shift/fault.Item", "shift/fault.Start", "shift/fault.Closed", "shift/fault.Edge", "shift/fault.Reason", "shift/fault.Clash", "shift/fault.None", "shift/fault.Reject", "errors.errorType"], apart := false, laid := [("errors.errorType", laid_errors_errorType), ("shift/fault.Long", laid_shift_fault_Long), ("shift/fault.Text", laid_shift_fault_Text), ("shift/fault.Name", laid_shift_fault_Name), ("shift/fault.Barren", laid_shift_fault_Barren), ("shift/fault.Letter", laid_shift_fault_Letter), ("shift/fault.Table", laid_shift_fault_Table), ("shift/fault.Item", laid_shift_fault_Item), ("shift/fault.Start", laid_shift_fault_Start), ("shift/fault.Closed", laid_shift_fault_Closed), ("shift/fault.Edge", laid_shift_fault_Edge), ("shift/fault.Reason", laid_shift_fault_Reason), ("shift/fault.Clash", laid_shift_fault_Clash), ("shift/fault.None", laid_shift_fault_None), ("shift/fault.Reject", laid_shift_fault_Reject)] }
def PrefixesSaid : Prop := prefixesRow.holds Tryd.pinned (OpenSpec.ofChange prefixesSpec)

/-- ITS FALSE NEIGHBOUR: 'it returns false'. Refute it at one input. -/
def prefixesWrong : ChangeSpec := { name := "prefixes", fn := fun _ => fun
  | [d1, d2] => { results := [.lit (.bool false)], args := [d1, d2] }
  | _ => none }
def PrefixesWrongFalsely : Prop := prefixesRow.holds Tryd.pinned (OpenSpec.ofChange prefixesWrong)

/-- 'shiftlaw.Prefixed': WHATEVER THE INPUT: true; the input reads as it did. -/
def prefixedSpec : ChangeSpec := { name := "prefixed", fn := fun _ => fun
  | [d1, d2, d3] => { results := [.lit (.bool true)], args := [d1, d2, d3] }
  | _ => none }
def prefixedRow : OpenClaim := { program := "ythmbbiahnfpoeaadoor", sum := "4c3c7924275c42c6a18337db58bd61c3da37bab465cc70a334a74fd39b424f42", func := "shift/shiftlaw.Prefixed", spec := "prefixed", inPlace := ["internal/reflectlite.TypeOf", "internal/reflectlite.ValueOf", "(internal/reflectlite.Value).Type", "(internal/reflectlite.Value).IsNil", "(internal/reflectlite.Value).Elem", "(internal/reflectlite.Value).Set"], unfollowed := true, recurses := true, named := ["shift/fault.Long", "shift/fault.Text", "shift/fault.Name", "shift/fault.Barren", "shift/fault.Letter", "shift/fault.Table", "shift/fault.Item", "shift/fault.Start", "shift/fault.Closed", "shift/fault.Edge", "shift/fault.Reason", "shift/fault.Clash", "shift/fault.None", "shift/fault.Reject", "errors.errorType"], apart := false, laid := [("errors.errorType", laid_errors_errorType), ("shift/fault.Long", laid_shift_fault_Long), ("shift/fault.Text", laid_shift_fault_Text), ("shift/fault.Name", laid_shift_fault_Name), ("shift/fault.Barren", laid_shift_fault_Barren), ("shift/fault.Letter", laid_shift_fault_Letter), ("shift/fault.Table", laid_shift_fault_Table), ("shift/fault.Item", laid_shift_fault_Item), ("shift/fault.Start", laid_shift_fault_Start), ("shift/fault.Closed", laid_shift_fault_Closed), ("shift/fault.Edge", laid_shift_fault_Edge), ("shift/fault.Reason", laid_shift_fault_Reason), ("shift/fault.Clash", laid_shift_fault_Clash), ("shift/fault.None", laid_shift_fault_None), ("shift/fault.Reject", laid_shift_fault_Reject)] }
def PrefixedSaid : Prop := prefixedRow.holds Tryd.pinned (OpenSpec.ofChange prefixedSpec)

/-- ITS FALSE NEIGHBOUR: 'it returns false'. Refute it at one input. -/
def prefixedWrong : ChangeSpec := { name := "prefixed", fn := fun _ => fun
  | [d1, d2, d3] => { results := [.lit (.bool false)], args := [d1, d2, d3] }
  | _ => none }
def PrefixedWrongFalsely : Prop := prefixedRow.holds Tryd.pinned (OpenSpec.ofChange prefixedWrong)

/- THE SECOND FORM. 'bulk': how many values and letters a reading holds, each counted each time it is reached (what is shared counts as often as it is met; a slice's spare places count too). A statement '..UptoSaid' is the law's where the arguments, and the package variables that the reading takes, are together of bulk at most 1048576: NARROWER than '..Said'. Prove '..Said' where nothing that the law and all that it calls make is longer than what came in: it says more and counts as full. Else prove '..UptoSaid'. A law counts once. -/
mutual
def uptoBulk {H : Type} : DataW H → Nat
  | .lit (.string bytes) => bytes.length + 1
  | .lit _ => 1
  | .nil => 1
  | .ptr d => uptoBulk d + 1
  | .slice elems spare => uptoBulkAll elems + uptoBulkAll spare + 1
  | .agg parts => uptoBulkAll parts + 1
  | .iface _ d => uptoBulk d + 1
  | .map entries => uptoBulkEntries entries + 1
  | .held _ => 1
def uptoBulkAll {H : Type} : List (DataW H) → Nat
  | [] => 0
  | d :: r => uptoBulk d + uptoBulkAll r
def uptoBulkEntries {H : Type} : List (Lit × DataW H) → Nat
  | [] => 0
  | x :: r => uptoBulkEntry x + uptoBulkEntries r
def uptoBulkEntry {H : Type} : Lit × DataW H → Nat
  | (.string bytes, d) => bytes.length + uptoBulk d + 1
  | (_, d) => uptoBulk d + 1
 end
def uptoSmall : (H : Type) → List (DataW H) → Bool := fun _ ds => decide (uptoBulkAll ds ≤ 1048576)
def OpenSpec.upto (s : _root_.Go.ChangeSpec) : _root_.Go.OpenSpec := { _root_.Go.OpenSpec.ofChange s with cond := some uptoSmall }

/-- 'shiftlaw.Checks', WHERE WHAT IT READS IS OF BULK AT MOST 1048576: true; the input reads as it did. -/
def checksUptoRow : OpenClaim := { program := "ythmbbiahnfpoeaadoor", sum := "4c3c7924275c42c6a18337db58bd61c3da37bab465cc70a334a74fd39b424f42", func := "shift/shiftlaw.Checks", spec := "checks", inPlace := ["internal/reflectlite.TypeOf", "internal/reflectlite.ValueOf", "(internal/reflectlite.Value).Type", "(internal/reflectlite.Value).IsNil", "(internal/reflectlite.Value).Elem", "(internal/reflectlite.Value).Set"], unfollowed := true, recurses := true, named := ["shift/fault.Long", "shift/fault.Text", "shift/fault.Name", "shift/fault.Barren", "shift/fault.Letter", "shift/fault.Table", "shift/fault.Item", "shift/fault.Start", "shift/fault.Closed", "shift/fault.Edge", "shift/fault.Reason", "shift/fault.Clash", "shift/fault.None", "shift/fault.Reject", "errors.errorType"], apart := false, laid := [("errors.errorType", laid_errors_errorType), ("shift/fault.Long", laid_shift_fault_Long), ("shift/fault.Text", laid_shift_fault_Text), ("shift/fault.Name", laid_shift_fault_Name), ("shift/fault.Barren", laid_shift_fault_Barren), ("shift/fault.Letter", laid_shift_fault_Letter), ("shift/fault.Table", laid_shift_fault_Table), ("shift/fault.Item", laid_shift_fault_Item), ("shift/fault.Start", laid_shift_fault_Start), ("shift/fault.Closed", laid_shift_fault_Closed), ("shift/fault.Edge", laid_shift_fault_Edge), ("shift/fault.Reason", laid_shift_fault_Reason), ("shift/fault.Clash", laid_shift_fault_Clash), ("shift/fault.None", laid_shift_fault_None), ("shift/fault.Reject", laid_shift_fault_Reject)], narrowed := true }
def ChecksUptoSaid : Prop := checksUptoRow.holds Tryd.pinned (OpenSpec.upto checksSpec)

/-- 'shiftlaw.Counts', WHERE WHAT IT READS IS OF BULK AT MOST 1048576: true; the input reads as it did. -/
def countsUptoRow : OpenClaim := { program := "ythmbbiahnfpoeaadoor", sum := "4c3c7924275c42c6a18337db58bd61c3da37bab465cc70a334a74fd39b424f42", func := "shift/shiftlaw.Counts", spec := "counts", inPlace := ["internal/reflectlite.TypeOf", "internal/reflectlite.ValueOf", "(internal/reflectlite.Value).Type", "(internal/reflectlite.Value).IsNil", "(internal/reflectlite.Value).Elem", "(internal/reflectlite.Value).Set"], unfollowed := true, recurses := true, named := ["shift/fault.Long", "shift/fault.Text", "shift/fault.Name", "shift/fault.Barren", "shift/fault.Letter", "shift/fault.Table", "shift/fault.Item", "shift/fault.Start", "shift/fault.Closed", "shift/fault.Edge", "shift/fault.Reason", "shift/fault.Clash", "shift/fault.None", "shift/fault.Reject", "errors.errorType"], apart := false, laid := [("errors.errorType", laid_errors_errorType), ("shift/fault.Long", laid_shift_fault_Long), ("shift/fault.Text", laid_shift_fault_Text), ("shift/fault.Name", laid_shift_fault_Name), ("shift/fault.Barren", laid_shift_fault_Barren), ("shift/fault.Letter", laid_shift_fault_Letter), ("shift/fault.Table", laid_shift_fault_Table), ("shift/fault.Item", laid_shift_fault_Item), ("shift/fault.Start", laid_shift_fault_Start), ("shift/fault.Closed", laid_shift_fault_Closed), ("shift/fault.Edge", laid_shift_fault_Edge), ("shift/fault.Reason", laid_shift_fault_Reason), ("shift/fault.Clash", laid_shift_fault_Clash), ("shift/fault.None", laid_shift_fault_None), ("shift/fault.Reject", laid_shift_fault_Reject)], narrowed := true }
def CountsUptoSaid : Prop := countsUptoRow.holds Tryd.pinned (OpenSpec.upto countsSpec)

/-- 'shiftlaw.Replays', WHERE WHAT IT READS IS OF BULK AT MOST 1048576: true; the input reads as it did. -/
def replaysUptoRow : OpenClaim := { program := "ythmbbiahnfpoeaadoor", sum := "4c3c7924275c42c6a18337db58bd61c3da37bab465cc70a334a74fd39b424f42", func := "shift/shiftlaw.Replays", spec := "replays", inPlace := ["internal/reflectlite.TypeOf", "internal/reflectlite.ValueOf", "(internal/reflectlite.Value).Type", "(internal/reflectlite.Value).IsNil", "(internal/reflectlite.Value).Elem", "(internal/reflectlite.Value).Set"], unfollowed := true, recurses := true, named := ["shift/fault.Long", "shift/fault.Text", "shift/fault.Name", "shift/fault.Barren", "shift/fault.Letter", "shift/fault.Table", "shift/fault.Item", "shift/fault.Start", "shift/fault.Closed", "shift/fault.Edge", "shift/fault.Reason", "shift/fault.Clash", "shift/fault.None", "shift/fault.Reject", "errors.errorType"], apart := false, laid := [("errors.errorType", laid_errors_errorType), ("shift/fault.Long", laid_shift_fault_Long), ("shift/fault.Text", laid_shift_fault_Text), ("shift/fault.Name", laid_shift_fault_Name), ("shift/fault.Barren", laid_shift_fault_Barren), ("shift/fault.Letter", laid_shift_fault_Letter), ("shift/fault.Table", laid_shift_fault_Table), ("shift/fault.Item", laid_shift_fault_Item), ("shift/fault.Start", laid_shift_fault_Start), ("shift/fault.Closed", laid_shift_fault_Closed), ("shift/fault.Edge", laid_shift_fault_Edge), ("shift/fault.Reason", laid_shift_fault_Reason), ("shift/fault.Clash", laid_shift_fault_Clash), ("shift/fault.None", laid_shift_fault_None), ("shift/fault.Reject", laid_shift_fault_Reject)], narrowed := true }
def ReplaysUptoSaid : Prop := replaysUptoRow.holds Tryd.pinned (OpenSpec.upto replaysSpec)

/-- 'shiftlaw.Tree', WHERE WHAT IT READS IS OF BULK AT MOST 1048576: true; the input reads as it did. -/
def treeUptoRow : OpenClaim := { program := "ythmbbiahnfpoeaadoor", sum := "4c3c7924275c42c6a18337db58bd61c3da37bab465cc70a334a74fd39b424f42", func := "shift/shiftlaw.Tree", spec := "tree", inPlace := ["internal/reflectlite.TypeOf", "internal/reflectlite.ValueOf", "(internal/reflectlite.Value).Type", "(internal/reflectlite.Value).IsNil", "(internal/reflectlite.Value).Elem", "(internal/reflectlite.Value).Set"], unfollowed := true, recurses := true, named := ["shift/fault.Long", "shift/fault.Text", "shift/fault.Name", "shift/fault.Barren", "shift/fault.Letter", "shift/fault.Table", "shift/fault.Item", "shift/fault.Start", "shift/fault.Closed", "shift/fault.Edge", "shift/fault.Reason", "shift/fault.Clash", "shift/fault.None", "shift/fault.Reject", "errors.errorType"], apart := false, laid := [("errors.errorType", laid_errors_errorType), ("shift/fault.Long", laid_shift_fault_Long), ("shift/fault.Text", laid_shift_fault_Text), ("shift/fault.Name", laid_shift_fault_Name), ("shift/fault.Barren", laid_shift_fault_Barren), ("shift/fault.Letter", laid_shift_fault_Letter), ("shift/fault.Table", laid_shift_fault_Table), ("shift/fault.Item", laid_shift_fault_Item), ("shift/fault.Start", laid_shift_fault_Start), ("shift/fault.Closed", laid_shift_fault_Closed), ("shift/fault.Edge", laid_shift_fault_Edge), ("shift/fault.Reason", laid_shift_fault_Reason), ("shift/fault.Clash", laid_shift_fault_Clash), ("shift/fault.None", laid_shift_fault_None), ("shift/fault.Reject", laid_shift_fault_Reject)], narrowed := true }
def TreeUptoSaid : Prop := treeUptoRow.holds Tryd.pinned (OpenSpec.upto treeSpec)

/-- 'shiftlaw.Prefixes', WHERE WHAT IT READS IS OF BULK AT MOST 1048576: true; the input reads as it did. -/
def prefixesUptoRow : OpenClaim := { program := "ythmbbiahnfpoeaadoor", sum := "4c3c7924275c42c6a18337db58bd61c3da37bab465cc70a334a74fd39b424f42", func := "shift/shiftlaw.Prefixes", spec := "prefixes", inPlace := ["internal/reflectlite.TypeOf", "internal/reflectlite.ValueOf", "(internal/reflectlite.Value).Type", "(internal/reflectlite.Value).IsNil", "(internal/reflectlite.Value).Elem", "(internal/reflectlite.Value).Set"], unfollowed := true, recurses := true, named := ["shift/fault.Long", "shift/fault.Text", "shift/fault.Name", "shift/fault.Barren", "shift/fault.Letter", "shift/fault.Table", "shift/fault.Item", "shift/fault.Start", "shift/fault.Closed", "shift/fault.Edge", "shift/fault.Reason", "shift/fault.Clash", "shift/fault.None", "shift/fault.Reject", "errors.errorType"], apart := false, laid := [("errors.errorType", laid_errors_errorType), ("shift/fault.Long", laid_shift_fault_Long), ("shift/fault.Text", laid_shift_fault_Text), ("shift/fault.Name", laid_shift_fault_Name), ("shift/fault.Barren", laid_shift_fault_Barren), ("shift/fault.Letter", laid_shift_fault_Letter), ("shift/fault.Table", laid_shift_fault_Table), ("shift/fault.Item", laid_shift_fault_Item), ("shift/fault.Start", laid_shift_fault_Start), ("shift/fault.Closed", laid_shift_fault_Closed), ("shift/fault.Edge", laid_shift_fault_Edge), ("shift/fault.Reason", laid_shift_fault_Reason), ("shift/fault.Clash", laid_shift_fault_Clash), ("shift/fault.None", laid_shift_fault_None), ("shift/fault.Reject", laid_shift_fault_Reject)], narrowed := true }
def PrefixesUptoSaid : Prop := prefixesUptoRow.holds Tryd.pinned (OpenSpec.upto prefixesSpec)

/-- 'shiftlaw.Prefixed', WHERE WHAT IT READS IS OF BULK AT MOST 1048576: true; the input reads as it did. -/
def prefixedUptoRow : OpenClaim := { program := "ythmbbiahnfpoeaadoor", sum := "4c3c7924275c42c6a18337db58bd61c3da37bab465cc70a334a74fd39b424f42", func := "shift/shiftlaw.Prefixed", spec := "prefixed", inPlace := ["internal/reflectlite.TypeOf", "internal/reflectlite.ValueOf", "(internal/reflectlite.Value).Type", "(internal/reflectlite.Value).IsNil", "(internal/reflectlite.Value).Elem", "(internal/reflectlite.Value).Set"], unfollowed := true, recurses := true, named := ["shift/fault.Long", "shift/fault.Text", "shift/fault.Name", "shift/fault.Barren", "shift/fault.Letter", "shift/fault.Table", "shift/fault.Item", "shift/fault.Start", "shift/fault.Closed", "shift/fault.Edge", "shift/fault.Reason", "shift/fault.Clash", "shift/fault.None", "shift/fault.Reject", "errors.errorType"], apart := false, laid := [("errors.errorType", laid_errors_errorType), ("shift/fault.Long", laid_shift_fault_Long), ("shift/fault.Text", laid_shift_fault_Text), ("shift/fault.Name", laid_shift_fault_Name), ("shift/fault.Barren", laid_shift_fault_Barren), ("shift/fault.Letter", laid_shift_fault_Letter), ("shift/fault.Table", laid_shift_fault_Table), ("shift/fault.Item", laid_shift_fault_Item), ("shift/fault.Start", laid_shift_fault_Start), ("shift/fault.Closed", laid_shift_fault_Closed), ("shift/fault.Edge", laid_shift_fault_Edge), ("shift/fault.Reason", laid_shift_fault_Reason), ("shift/fault.Clash", laid_shift_fault_Clash), ("shift/fault.None", laid_shift_fault_None), ("shift/fault.Reject", laid_shift_fault_Reject)], narrowed := true }
def PrefixedUptoSaid : Prop := prefixedUptoRow.holds Tryd.pinned (OpenSpec.upto prefixedSpec)

end Rows
end Go.Proofs.YthmbbiahnfpoeaaDoor
