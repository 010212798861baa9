/-
  Closed facts of this seat's program that hang on its first string: proved by the string's letters. Conditions: none.
-/
import Derived.Test.YtfpjflghgmcgbaaRows
import Derived.ProofKit
namespace Go.Proofs.Ytfpjflghgmcgbaa
set_option maxRecDepth 100000
def ioNums : List Nat := [104, 97, 114, 110, 101, 115, 115, 32, 49, 50, 53, 53, 49, 100, 56, 51, 53, 102, 52, 54, 48, 51, 48, 98, 56, 50, 57, 99, 57, 57, 54, 50, 53, 97, 99, 51, 100, 102, 100, 57, 53, 53, 52, 48, 97, 48, 51, 49, 54, 98, 99, 57, 52, 55, 55, 56, 100, 56, 50, 55, 55, 57, 50, 99, 52, 55, 99, 101, 97, 51, 99, 52, 32, 99, 117, 116, 32, 97, 116, 32, 108, 111, 111, 112, 46, 101, 120, 97, 109, 112, 108, 101, 47, 112, 111, 108, 121, 99, 105, 114, 99, 117, 105, 116, 115, 47, 108, 97, 119, 115, 46, 70, 110, 71, 114, 97, 100, 105, 101, 110, 116, 32, 108, 111, 111, 112, 46, 101, 120, 97, 109, 112, 108, 101, 47, 112, 111, 108, 121, 99, 105, 114, 99, 117, 105, 116, 115, 47, 108, 97, 119, 115, 46, 70, 110, 71, 114, 97, 100, 105, 101, 110, 116, 65, 116, 32, 108, 111, 111, 112, 46, 101, 120, 97, 109, 112, 108, 101, 47, 112, 111, 108, 121, 99, 105, 114, 99, 117, 105, 116, 115, 47, 108, 97, 119, 115, 46, 70, 110, 71, 114, 97, 100, 105, 101, 110, 116, 80, 111, 108, 121, 115, 32, 108, 111, 111, 112, 46, 101, 120, 97, 109, 112, 108, 101, 47, 112, 111, 108, 121, 99, 105, 114, 99, 117, 105, 116, 115, 47, 108, 97, 119, 115, 46, 70, 110, 70, 111, 114, 119, 97, 114, 100, 79, 102, 32, 108, 111, 111, 112, 46, 101, 120, 97, 109, 112, 108, 101, 47, 112, 111, 108, 121, 99, 105, 114, 99, 117, 105, 116, 115, 47, 108, 97, 119, 115, 46, 70, 110, 69, 120, 97, 99, 116, 71, 114, 97, 100, 105, 101, 110, 116, 79, 102, 32, 108, 111, 111, 112, 46, 101, 120, 97, 109, 112, 108, 101, 47, 112, 111, 108, 121, 99, 105, 114, 99, 117, 105, 116, 115, 47, 108, 97, 119, 115, 46, 70, 110, 69, 120, 97, 99, 116, 71, 114, 97, 100, 105, 101, 110, 116, 80, 111, 108, 121, 115, 32, 108, 111, 111, 112, 46, 101, 120, 97, 109, 112, 108, 101, 47, 112, 111, 108, 121, 99, 105, 114, 99, 117, 105, 116, 115, 47, 108, 97, 119, 115, 46, 70, 110, 69, 120, 97, 99, 116, 71, 114, 97, 100, 105, 101, 110, 116, 65, 116, 32, 108, 111, 111, 112, 46, 101, 120, 97, 109, 112, 108, 101, 47, 112, 111, 108, 121, 99, 105, 114, 99, 117, 105, 116, 115, 47, 108, 97, 119, 115, 46, 70, 110, 69, 120, 97, 99, 116, 71, 114, 97, 100, 105, 101, 110, 116, 86, 97, 108, 105, 100, 32, 108, 111, 111, 112, 46, 101, 120, 97, 109, 112, 108, 101, 47, 112, 111, 108, 121, 99, 105, 114, 99, 117, 105, 116, 115, 47, 108, 97, 119, 115, 46, 70, 110, 69, 120, 97, 99, 116, 70, 111, 114, 119, 97, 114, 100, 79, 102, 32, 108, 111, 111, 112, 46, 101, 120, 97, 109, 112, 108, 101, 47, 112, 111, 108, 121, 99, 105, 114, 99, 117, 105, 116, 115, 47, 108, 97, 119, 115, 46, 70, 110, 69, 120, 97, 99, 116, 70, 111, 114, 119, 97, 114, 100, 65, 116]
theorem ofList_bytes (l : List Char) : (String.ofList l).toByteArray = l.utf8Encode := rfl
theorem io_lit : Try.prog.initOrder = "harness 12551d835f46030b829c99625ac3dfd95540a0316bc94778d827792c47cea3c4 cut at loop.example/polycircuits/laws.FnGradient loop.example/polycircuits/laws.FnGradientAt loop.example/polycircuits/laws.FnGradientPolys loop.example/polycircuits/laws.FnForwardOf loop.example/polycircuits/laws.FnExactGradientOf loop.example/polycircuits/laws.FnExactGradientPolys loop.example/polycircuits/laws.FnExactGradientAt loop.example/polycircuits/laws.FnExactGradientValid loop.example/polycircuits/laws.FnExactForwardOf loop.example/polycircuits/laws.FnExactForwardAt" := by kernel_rfl
theorem io_bytes : ("harness 12551d835f46030b829c99625ac3dfd95540a0316bc94778d827792c47cea3c4 cut at loop.example/polycircuits/laws.FnGradient loop.example/polycircuits/laws.FnGradientAt loop.example/polycircuits/laws.FnGradientPolys loop.example/polycircuits/laws.FnForwardOf loop.example/polycircuits/laws.FnExactGradientOf loop.example/polycircuits/laws.FnExactGradientPolys loop.example/polycircuits/laws.FnExactGradientAt loop.example/polycircuits/laws.FnExactGradientValid loop.example/polycircuits/laws.FnExactForwardOf loop.example/polycircuits/laws.FnExactForwardAt" : String).toByteArray = (ioNums.map Char.ofNat).utf8Encode := by kernel_rfl
theorem io_eq : Try.prog.initOrder = String.ofList (ioNums.map Char.ofNat) := by
  rw [io_lit]; exact String.toByteArray_inj.1 (io_bytes.trans (ofList_bytes _).symm)
theorem io_list : Try.prog.initOrder.toList = ioNums.map Char.ofNat := by rw [io_eq, String.toList_ofList]
def ioWords : List (List Char) := behindMainWord (wordsSigns (ioNums.map Char.ofNat))
theorem io_words : behindMainWord (wordsSigns Try.prog.initOrder.toList) = ioWords := by rw [io_list]; rfl
theorem io_cut : ioWords = "cut".toList :: ioWords.tail := by kernel_rfl
theorem io_all : behindMainWord (wordsSigns Try.prog.initOrder.toList) = "cut".toList :: ioWords.tail := io_words.trans io_cut
theorem strip_cut (rest : List (List Char)) : stripLifts liftWords ("cut".toList :: rest) = ([], "cut".toList :: rest) := by kernel_rfl
theorem make_of (P : Program) (rest : List (List Char)) (h : behindMainWord (wordsSigns P.initOrder.toList) = "cut".toList :: rest) : P.make = some .cut := by
  unfold Program.make; rw [h]; kernel_rfl
theorem may_of (P : Program) (rest : List (List Char)) (h : behindMainWord (wordsSigns P.initOrder.toList) = "cut".toList :: rest) (h1 : P.laysLater = false) (h2 : P.bearsReflect = false) (h3 : P.doorFits [] = true) : P.mayEnter = true := by
  unfold Program.mayEnter; rw [h]; dsimp only; rw [strip_cut, h1, h2, h3]; kernel_rfl
theorem lifts_of (P : Program) (rest : List (List Char)) (h : behindMainWord (wordsSigns P.initOrder.toList) = "cut".toList :: rest) : P.liftsFinal = false := by
  unfold Program.liftsFinal Program.headLifts; rw [h, strip_cut]; kernel_rfl
theorem fDoor : Try.prog.doorFits [] = true := by kernel_rfl
theorem fLater : Try.prog.laysLater = false := by kernel_rfl
theorem fReflect : Try.prog.bearsReflect = false := by kernel_rfl
theorem fMay : Try.checked.prog.mayEnter = true := may_of _ _ io_all fLater fReflect fDoor
theorem fLifts : Try.checked.prog.liftsFinal = false := lifts_of _ _ io_all
theorem fMake : Try.checked.prog.make = some .cut := make_of _ _ io_all
end Go.Proofs.Ytfpjflghgmcgbaa
