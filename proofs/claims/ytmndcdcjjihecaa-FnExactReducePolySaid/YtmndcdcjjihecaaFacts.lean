/-
  Closed facts of this seat's program that hang on its first string: proved by the string's letters. Conditions: none.
-/
import Derived.Test.YtmndcdcjjihecaaRows
import Derived.ProofKit
namespace Go.Proofs.Ytmndcdcjjihecaa
set_option maxRecDepth 100000
def ioNums : List Nat := [104, 97, 114, 110, 101, 115, 115, 32, 55, 97, 55, 97, 97, 101, 48, 54, 102, 51, 55, 49, 56, 98, 101, 100, 51, 48, 97, 51, 51, 101, 55, 53, 53, 51, 48, 55, 53, 99, 49, 101, 97, 101, 102, 50, 50, 101, 55, 101, 54, 56, 53, 50, 51, 52, 50, 97, 100, 55, 48, 101, 54, 57, 51, 49, 99, 48, 55, 48, 50, 53, 100, 100, 32, 99, 117, 116, 32, 97, 116, 32, 108, 111, 111, 112, 46, 101, 120, 97, 109, 112, 108, 101, 47, 112, 111, 108, 121, 99, 105, 114, 99, 117, 105, 116, 115, 47, 108, 97, 119, 115, 46, 70, 110, 69, 120, 97, 99, 116, 82, 101, 100, 117, 99, 101, 80, 111, 108, 121, 32, 108, 111, 111, 112, 46, 101, 120, 97, 109, 112, 108, 101, 47, 112, 111, 108, 121, 99, 105, 114, 99, 117, 105, 116, 115, 47, 108, 97, 119, 115, 46, 70, 110, 69, 120, 97, 99, 116, 83, 97, 109, 101, 86, 97, 108, 117, 101, 115, 32, 108, 111, 111, 112, 46, 101, 120, 97, 109, 112, 108, 101, 47, 112, 111, 108, 121, 99, 105, 114, 99, 117, 105, 116, 115, 47, 108, 97, 119, 115, 46, 70, 110, 69, 120, 97, 99, 116, 90, 101, 114, 111, 66, 111, 117, 110, 100, 32, 108, 111, 111, 112, 46, 101, 120, 97, 109, 112, 108, 101, 47, 112, 111, 108, 121, 99, 105, 114, 99, 117, 105, 116, 115, 47, 108, 97, 119, 115, 46, 70, 110, 69, 120, 97, 99, 116, 70, 105, 114, 115, 116, 78, 111, 110, 122, 101, 114, 111, 32, 108, 111, 111, 112, 46, 101, 120, 97, 109, 112, 108, 101, 47, 112, 111, 108, 121, 99, 105, 114, 99, 117, 105, 116, 115, 47, 108, 97, 119, 115, 46, 70, 110, 69, 120, 97, 99, 116, 84, 101, 108, 108, 65, 112, 97, 114, 116, 32, 108, 111, 111, 112, 46, 101, 120, 97, 109, 112, 108, 101, 47, 112, 111, 108, 121, 99, 105, 114, 99, 117, 105, 116, 115, 47, 108, 97, 119, 115, 46, 70, 110, 69, 120, 97, 99, 116, 80, 111, 105, 110, 116, 65, 116]
theorem ofList_bytes (l : List Char) : (String.ofList l).toByteArray = l.utf8Encode := rfl
theorem io_lit : Try.prog.initOrder = "harness 7a7aae06f3718bed30a33e7553075c1eaef22e7e6852342ad70e6931c07025dd cut at loop.example/polycircuits/laws.FnExactReducePoly loop.example/polycircuits/laws.FnExactSameValues loop.example/polycircuits/laws.FnExactZeroBound loop.example/polycircuits/laws.FnExactFirstNonzero loop.example/polycircuits/laws.FnExactTellApart loop.example/polycircuits/laws.FnExactPointAt" := by kernel_rfl
theorem io_bytes : ("harness 7a7aae06f3718bed30a33e7553075c1eaef22e7e6852342ad70e6931c07025dd cut at loop.example/polycircuits/laws.FnExactReducePoly loop.example/polycircuits/laws.FnExactSameValues loop.example/polycircuits/laws.FnExactZeroBound loop.example/polycircuits/laws.FnExactFirstNonzero loop.example/polycircuits/laws.FnExactTellApart loop.example/polycircuits/laws.FnExactPointAt" : String).toByteArray = (ioNums.map Char.ofNat).utf8Encode := by kernel_rfl
theorem io_eq : Try.prog.initOrder = String.ofList (ioNums.map Char.ofNat) := by
  rw [io_lit]; exact String.toByteArray_inj.1 (io_bytes.trans (ofList_bytes _).symm)
theorem io_list : Try.prog.initOrder.toList = ioNums.map Char.ofNat := by rw [io_eq, String.toList_ofList]
def ioWords : List (List Char) := behindMainWord (wordsSigns (ioNums.map Char.ofNat))
theorem io_words : behindMainWord (wordsSigns Try.prog.initOrder.toList) = ioWords := by rw [io_list]; rfl
theorem io_cut : ioWords = "cut".toList :: ioWords.tail := by kernel_rfl
theorem io_all : behindMainWord (wordsSigns Try.prog.initOrder.toList) = "cut".toList :: ioWords.tail := io_words.trans io_cut
theorem strip_cut (rest : List (List Char)) : stripLifts liftWords ("cut".toList :: rest) = ([], "cut".toList :: rest) := by kernel_rfl
theorem make_of (P : Program) (rest : List (List Char)) (h : behindMainWord (wordsSigns P.initOrder.toList) = "cut".toList :: rest) : P.make = some .cut := by
  unfold Program.make; rw [h]; kernel_rfl
theorem may_of (P : Program) (rest : List (List Char)) (h : behindMainWord (wordsSigns P.initOrder.toList) = "cut".toList :: rest) (h1 : P.laysLater = false) (h2 : P.bearsReflect = false) (h3 : P.doorFits [] = true) : P.mayEnter = true := by
  unfold Program.mayEnter; rw [h]; dsimp only; rw [strip_cut, h1, h2, h3]; kernel_rfl
theorem lifts_of (P : Program) (rest : List (List Char)) (h : behindMainWord (wordsSigns P.initOrder.toList) = "cut".toList :: rest) : P.liftsFinal = false := by
  unfold Program.liftsFinal Program.headLifts; rw [h, strip_cut]; kernel_rfl
theorem fDoor : Try.prog.doorFits [] = true := by kernel_rfl
theorem fLater : Try.prog.laysLater = false := by kernel_rfl
theorem fReflect : Try.prog.bearsReflect = false := by kernel_rfl
theorem fMay : Try.checked.prog.mayEnter = true := may_of _ _ io_all fLater fReflect fDoor
theorem fLifts : Try.checked.prog.liftsFinal = false := lifts_of _ _ io_all
theorem fMake : Try.checked.prog.make = some .cut := make_of _ _ io_all
end Go.Proofs.Ytmndcdcjjihecaa
