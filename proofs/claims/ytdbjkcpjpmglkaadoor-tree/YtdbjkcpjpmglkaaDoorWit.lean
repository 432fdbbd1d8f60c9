import Derived.Test.YtdbjkcpjpmglkaaDoorLaid
import Derived.Test.YtdbjkcpjpmglkaaDoorCards
import Derived.Test.YtdbjkcpjpmglkaaDoorTie
import Derived.WalkKit
import Derived.ProofKit
import Derived.OpenShut
import Derived.Deep.DeepHandedRow
import Derived.Lib.LaidTab
namespace Go.Proofs.YtdbjkcpjpmglkaaDoor
open Go.ChangeShapes Go.WideShapes Go.ChangeAt Go.RowKit

def txtLong : ByteArray := ⟨#[108, 111, 110, 103, 101, 114, 32, 116, 104, 97, 110, 32, 105, 116, 32, 109, 97, 121, 32, 98, 101]⟩
def txtText : ByteArray := ⟨#[110, 111, 32, 103, 114, 97, 109, 109, 97, 114, 32, 103, 111, 101, 115, 32, 111, 110, 32, 108, 105, 107, 101, 32, 116, 104, 105, 115]⟩
def txtName : ByteArray := ⟨#[97, 32, 110, 97, 109, 101, 32, 116, 104, 97, 116, 32, 110, 111, 32, 114, 117, 108, 101, 32, 104, 97, 115]⟩
def txtBarren : ByteArray := ⟨#[97, 32, 110, 97, 109, 101, 32, 119, 105, 116, 104, 111, 117, 116, 32, 116, 114, 101, 101, 115]⟩
def txtLetter : ByteArray := ⟨#[110, 111, 32, 108, 101, 116, 116, 101, 114]⟩
def putV (v : Value) : Obj → Obj
  | .cells _ t frozen => .cells #[v] t frozen
  | o => o
/-- Five blocks for the sentinels, behind the settled world's eleven. -/
def laidIn : Input := ⟨#[.cells #[.string txtLong] 186, .cells #[.string txtText] 186, .cells #[.string txtName] 186, .cells #[.string txtBarren] 186, .cells #[.string txtLetter] 186], #[], []⟩
/-- A world for the witness: the variables holding what their initialisers lay. -/
def layAll (w0 : World) : World :=
  { w0 with heap := (((((w0.heap.modify 0 (putV (.iface 165 (.pointer (some ⟨11, 0, none⟩))))).modify 1 (putV (.iface 165 (.pointer (some ⟨12, 0, none⟩))))).modify 2 (putV (.iface 165 (.pointer (some ⟨13, 0, none⟩))))).modify 3 (putV (.iface 165 (.pointer (some ⟨14, 0, none⟩))))).modify 4 (putV (.iface 165 (.pointer (some ⟨15, 0, none⟩))))).modify 5 (putV (.iface 147 (.agg #[.pointer (some ⟨6, 49, none⟩)]))) }
theorem laid_met (os : Os) (args : Array Value) : laidMetH Tryd.prog laidAll ((layAll (World.holding Tryd.prog os laidIn)).forCall (fun _ _ => 0) ⟨#[], args, []⟩).memory :=
  laidMetH_of_parts (laidMet_of_run' 8 (by kernel_rfl) (by kernel_rfl)) (by kernel_rfl)
end Go.Proofs.YtdbjkcpjpmglkaaDoor
