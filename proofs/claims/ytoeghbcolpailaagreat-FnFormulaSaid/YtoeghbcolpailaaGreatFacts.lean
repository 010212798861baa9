/-
  Closed facts of this seat's program that hang on its first string: proved by the string's letters. Conditions: none.
-/
import Derived.Test.YtoeghbcolpailaaGreatRows
import Derived.ProofKit
namespace Go.Proofs.YtoeghbcolpailaaGreat
set_option maxRecDepth 100000
def ioNums : List Nat := [104, 97, 114, 110, 101, 115, 115, 32, 55, 51, 51, 48, 48, 54, 49, 100, 51, 56, 48, 52, 51, 101, 102, 52, 102, 57, 48, 52, 49, 97, 54, 102, 51, 102, 51, 99, 57, 49, 55, 51, 97, 98, 101, 52, 101, 56, 56, 99, 51, 102, 97, 51, 49, 50, 52, 99, 101, 55, 101, 98, 55, 50, 98, 50, 49, 102, 55, 100, 56, 57, 97, 99, 32, 99, 117, 116, 32, 97, 116, 32, 108, 111, 111, 112, 46, 101, 120, 97, 109, 112, 108, 101, 47, 112, 111, 108, 121, 99, 105, 114, 99, 117, 105, 116, 115, 47, 108, 97, 119, 115, 46, 70, 110, 70, 111, 114, 109, 117, 108, 97]
theorem ofList_bytes (l : List Char) : (String.ofList l).toByteArray = l.utf8Encode := rfl
theorem io_lit : Tryz.prog.initOrder = "harness 7330061d38043ef4f9041a6f3f3c9173abe4e88c3fa3124ce7eb72b21f7d89ac cut at loop.example/polycircuits/laws.FnFormula" := by kernel_rfl
theorem io_bytes : ("harness 7330061d38043ef4f9041a6f3f3c9173abe4e88c3fa3124ce7eb72b21f7d89ac cut at loop.example/polycircuits/laws.FnFormula" : String).toByteArray = (ioNums.map Char.ofNat).utf8Encode := by kernel_rfl
theorem io_eq : Tryz.prog.initOrder = String.ofList (ioNums.map Char.ofNat) := by
  rw [io_lit]; exact String.toByteArray_inj.1 (io_bytes.trans (ofList_bytes _).symm)
theorem io_list : Tryz.prog.initOrder.toList = ioNums.map Char.ofNat := by rw [io_eq, String.toList_ofList]
def ioWords : List (List Char) := behindMainWord (wordsSigns (ioNums.map Char.ofNat))
theorem io_words : behindMainWord (wordsSigns Tryz.prog.initOrder.toList) = ioWords := by rw [io_list]; rfl
theorem io_cut : ioWords = "cut".toList :: ioWords.tail := by kernel_rfl
theorem io_all : behindMainWord (wordsSigns Tryz.prog.initOrder.toList) = "cut".toList :: ioWords.tail := io_words.trans io_cut
theorem strip_cut (rest : List (List Char)) : stripLifts liftWords ("cut".toList :: rest) = ([], "cut".toList :: rest) := by kernel_rfl
theorem make_of (P : Program) (rest : List (List Char)) (h : behindMainWord (wordsSigns P.initOrder.toList) = "cut".toList :: rest) : P.make = some .cut := by
  unfold Program.make; rw [h]; kernel_rfl
theorem may_of (P : Program) (rest : List (List Char)) (h : behindMainWord (wordsSigns P.initOrder.toList) = "cut".toList :: rest) (h1 : P.laysLater = false) (h2 : P.bearsReflect = false) (h3 : P.doorFits [] = true) : P.mayEnter = true := by
  unfold Program.mayEnter; rw [h]; dsimp only; rw [strip_cut, h1, h2, h3]; kernel_rfl
theorem lifts_of (P : Program) (rest : List (List Char)) (h : behindMainWord (wordsSigns P.initOrder.toList) = "cut".toList :: rest) : P.liftsFinal = false := by
  unfold Program.liftsFinal Program.headLifts; rw [h, strip_cut]; kernel_rfl
theorem fDoor : Tryz.prog.doorFits [] = true := by kernel_rfl
theorem fLater : Tryz.prog.laysLater = false := by kernel_rfl
theorem fReflect : Tryz.prog.bearsReflect = false := by kernel_rfl
theorem fMay : Tryz.checked.prog.mayEnter = true := may_of _ _ io_all fLater fReflect fDoor
theorem fLifts : Tryz.checked.prog.liftsFinal = false := lifts_of _ _ io_all
theorem fMake : Tryz.checked.prog.make = some .cut := make_of _ _ io_all
end Go.Proofs.YtoeghbcolpailaaGreat
