import Derived.Test.YthmbbiahnfpoeaaDoorLaid
import Derived.Test.YthmbbiahnfpoeaaDoorCards
import Derived.Test.YthmbbiahnfpoeaaDoorTie
import Derived.WalkKit
import Derived.ProofKit
import Derived.OpenShut
import Derived.Deep.DeepHandedRow
import Derived.Lib.LaidTab
namespace Go.Proofs.YthmbbiahnfpoeaaDoor
open Go.ChangeShapes Go.WideShapes Go.ChangeAt Go.RowKit

def txt0 : ByteArray := ⟨#[108, 111, 110, 103, 101, 114, 32, 116, 104, 97, 110, 32, 105, 116, 32, 109, 97, 121, 32, 98, 101]⟩
def txt1 : ByteArray := ⟨#[110, 111, 32, 103, 114, 97, 109, 109, 97, 114, 32, 103, 111, 101, 115, 32, 111, 110, 32, 108, 105, 107, 101, 32, 116, 104, 105, 115]⟩
def txt2 : ByteArray := ⟨#[97, 32, 110, 97, 109, 101, 32, 116, 104, 97, 116, 32, 110, 111, 32, 114, 117, 108, 101, 32, 104, 97, 115]⟩
def txt3 : ByteArray := ⟨#[97, 32, 110, 97, 109, 101, 32, 119, 105, 116, 104, 111, 117, 116, 32, 116, 114, 101, 101, 115]⟩
def txt4 : ByteArray := ⟨#[110, 111, 32, 108, 101, 116, 116, 101, 114]⟩
def txt5 : ByteArray := ⟨#[110, 111, 32, 115, 116, 97, 116, 101, 32, 105, 115, 32, 119, 114, 105, 116, 116, 101, 110, 32, 108, 105, 107, 101, 32, 116, 104, 105, 115]⟩
def txt6 : ByteArray := ⟨#[97, 110, 32, 105, 116, 101, 109, 32, 111, 114, 32, 97, 110, 32, 101, 100, 103, 101, 32, 116, 104, 97, 116, 32, 99, 97, 110, 110, 111, 116, 32, 98, 101]⟩
def txt7 : ByteArray := ⟨#[110, 111, 32, 115, 116, 97, 116, 101, 32, 116, 111, 32, 98, 101, 103, 105, 110, 32, 105, 110]⟩
def txt8 : ByteArray := ⟨#[97, 110, 32, 105, 116, 101, 109, 32, 105, 115, 32, 109, 105, 115, 115, 105, 110, 103]⟩
def txt9 : ByteArray := ⟨#[97, 110, 32, 101, 100, 103, 101, 32, 105, 115, 32, 109, 105, 115, 115, 105, 110, 103, 44, 32, 111, 114, 32, 111, 110, 101, 32, 116, 111, 111, 32, 109, 97, 110, 121]⟩
def txt10 : ByteArray := ⟨#[97, 110, 32, 105, 116, 101, 109, 32, 119, 105, 116, 104, 111, 117, 116, 32, 97, 32, 114, 101, 97, 115, 111, 110]⟩
def txt11 : ByteArray := ⟨#[116, 119, 111, 32, 116, 104, 105, 110, 103, 115, 32, 116, 111, 32, 100, 111]⟩
def txt12 : ByteArray := ⟨#[110, 111, 32, 116, 97, 98, 108, 101, 32, 105, 115, 32, 102, 111, 114, 32, 105, 116]⟩
def txt13 : ByteArray := ⟨#[110, 111, 32, 119, 111, 114, 100, 32, 103, 111, 101, 115, 32, 111, 110, 32, 108, 105, 107, 101, 32, 116, 104, 105, 115]⟩
def putV (v : Value) : Obj → Obj
  | .cells _ t frozen => .cells #[v] t frozen
  | o => o
/-- A block for each sentinel, behind those of the settled world. -/
def laidIn : Input := ⟨#[.cells #[.string txt0] 186, .cells #[.string txt1] 186, .cells #[.string txt2] 186, .cells #[.string txt3] 186, .cells #[.string txt4] 186, .cells #[.string txt5] 186, .cells #[.string txt6] 186, .cells #[.string txt7] 186, .cells #[.string txt8] 186, .cells #[.string txt9] 186, .cells #[.string txt10] 186, .cells #[.string txt11] 186, .cells #[.string txt12] 186, .cells #[.string txt13] 186], #[], []⟩
/-- A world for the witness: the variables holding what their initialisers lay. -/
def layAll (w0 : World) : World :=
  { w0 with heap := ((((((((((((((w0.heap.modify 0 (putV (.iface 165 (.pointer (some ⟨20, 0, none⟩))))).modify 1 (putV (.iface 165 (.pointer (some ⟨21, 0, none⟩))))).modify 2 (putV (.iface 165 (.pointer (some ⟨22, 0, none⟩))))).modify 3 (putV (.iface 165 (.pointer (some ⟨23, 0, none⟩))))).modify 4 (putV (.iface 165 (.pointer (some ⟨24, 0, none⟩))))).modify 5 (putV (.iface 165 (.pointer (some ⟨25, 0, none⟩))))).modify 6 (putV (.iface 165 (.pointer (some ⟨26, 0, none⟩))))).modify 7 (putV (.iface 165 (.pointer (some ⟨27, 0, none⟩))))).modify 8 (putV (.iface 165 (.pointer (some ⟨28, 0, none⟩))))).modify 9 (putV (.iface 165 (.pointer (some ⟨29, 0, none⟩))))).modify 10 (putV (.iface 165 (.pointer (some ⟨30, 0, none⟩))))).modify 11 (putV (.iface 165 (.pointer (some ⟨31, 0, none⟩))))).modify 12 (putV (.iface 165 (.pointer (some ⟨32, 0, none⟩))))).modify 13 (putV (.iface 165 (.pointer (some ⟨33, 0, none⟩))))).modify 14 (putV (.iface 147 (.agg #[.pointer (some ⟨15, 49, none⟩)]))) }
theorem laid_met (os : Os) (args : Array Value) : laidMetH Tryd.prog laidAll ((layAll (World.holding Tryd.prog os laidIn)).forCall (fun _ _ => 0) ⟨#[], args, []⟩).memory :=
  laidMetH_of_parts (laidMet_of_run' 8 (by kernel_rfl) (by kernel_rfl)) (by kernel_rfl)
end Go.Proofs.YthmbbiahnfpoeaaDoor
