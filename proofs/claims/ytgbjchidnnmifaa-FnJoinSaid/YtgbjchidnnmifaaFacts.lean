/-
  Closed facts of this seat's program that hang on its first string: proved by the string's letters. Conditions: none.
-/
import Derived.Test.YtgbjchidnnmifaaRows
import Derived.ProofKit
namespace Go.Proofs.Ytgbjchidnnmifaa
set_option maxRecDepth 100000
def ioNums : List Nat := [104, 97, 114, 110, 101, 115, 115, 32, 49, 49, 56, 57, 51, 98, 52, 54, 52, 51, 55, 55, 100, 101, 101, 100, 99, 99, 53, 57, 57, 50, 101, 52, 57, 100, 102, 52, 55, 53, 102, 98, 48, 97, 97, 98, 54, 57, 56, 51, 53, 49, 100, 97, 99, 100, 97, 49, 50, 57, 48, 52, 97, 102, 100, 50, 100, 98, 52, 53, 99, 56, 56, 50, 32, 99, 117, 116, 32, 97, 116, 32, 108, 111, 111, 112, 46, 101, 120, 97, 109, 112, 108, 101, 47, 112, 111, 108, 121, 99, 105, 114, 99, 117, 105, 116, 115, 47, 108, 97, 119, 115, 46, 70, 110, 69, 118, 97, 108, 71, 97, 116, 101, 115, 32, 108, 111, 111, 112, 46, 101, 120, 97, 109, 112, 108, 101, 47, 112, 111, 108, 121, 99, 105, 114, 99, 117, 105, 116, 115, 47, 108, 97, 119, 115, 46, 70, 110, 68, 101, 112, 116, 104, 32, 108, 111, 111, 112, 46, 101, 120, 97, 109, 112, 108, 101, 47, 112, 111, 108, 121, 99, 105, 114, 99, 117, 105, 116, 115, 47, 108, 97, 119, 115, 46, 70, 110, 74, 111, 105, 110]
theorem ofList_bytes (l : List Char) : (String.ofList l).toByteArray = l.utf8Encode := rfl
theorem io_lit : Try.prog.initOrder = "harness 11893b464377deedcc5992e49df475fb0aab698351dacda12904afd2db45c882 cut at loop.example/polycircuits/laws.FnEvalGates loop.example/polycircuits/laws.FnDepth loop.example/polycircuits/laws.FnJoin" := by kernel_rfl
theorem io_bytes : ("harness 11893b464377deedcc5992e49df475fb0aab698351dacda12904afd2db45c882 cut at loop.example/polycircuits/laws.FnEvalGates loop.example/polycircuits/laws.FnDepth loop.example/polycircuits/laws.FnJoin" : String).toByteArray = (ioNums.map Char.ofNat).utf8Encode := by kernel_rfl
theorem io_eq : Try.prog.initOrder = String.ofList (ioNums.map Char.ofNat) := by
  rw [io_lit]; exact String.toByteArray_inj.1 (io_bytes.trans (ofList_bytes _).symm)
theorem io_list : Try.prog.initOrder.toList = ioNums.map Char.ofNat := by rw [io_eq, String.toList_ofList]
def ioWords : List (List Char) := behindMainWord (wordsSigns (ioNums.map Char.ofNat))
theorem io_words : behindMainWord (wordsSigns Try.prog.initOrder.toList) = ioWords := by rw [io_list]; rfl
theorem io_cut : ioWords = "cut".toList :: ioWords.tail := by kernel_rfl
theorem io_all : behindMainWord (wordsSigns Try.prog.initOrder.toList) = "cut".toList :: ioWords.tail := io_words.trans io_cut
theorem strip_cut (rest : List (List Char)) : stripLifts liftWords ("cut".toList :: rest) = ([], "cut".toList :: rest) := by kernel_rfl
theorem make_of (P : Program) (rest : List (List Char)) (h : behindMainWord (wordsSigns P.initOrder.toList) = "cut".toList :: rest) : P.make = some .cut := by
  unfold Program.make; rw [h]; kernel_rfl
theorem may_of (P : Program) (rest : List (List Char)) (h : behindMainWord (wordsSigns P.initOrder.toList) = "cut".toList :: rest) (h1 : P.laysLater = false) (h2 : P.bearsReflect = false) (h3 : P.doorFits [] = true) : P.mayEnter = true := by
  unfold Program.mayEnter; rw [h]; dsimp only; rw [strip_cut, h1, h2, h3]; kernel_rfl
theorem lifts_of (P : Program) (rest : List (List Char)) (h : behindMainWord (wordsSigns P.initOrder.toList) = "cut".toList :: rest) : P.liftsFinal = false := by
  unfold Program.liftsFinal Program.headLifts; rw [h, strip_cut]; kernel_rfl
theorem fDoor : Try.prog.doorFits [] = true := by kernel_rfl
theorem fLater : Try.prog.laysLater = false := by kernel_rfl
theorem fReflect : Try.prog.bearsReflect = false := by kernel_rfl
theorem fMay : Try.checked.prog.mayEnter = true := may_of _ _ io_all fLater fReflect fDoor
theorem fLifts : Try.checked.prog.liftsFinal = false := lifts_of _ _ io_all
theorem fMake : Try.checked.prog.make = some .cut := make_of _ _ io_all
end Go.Proofs.Ytgbjchidnnmifaa
