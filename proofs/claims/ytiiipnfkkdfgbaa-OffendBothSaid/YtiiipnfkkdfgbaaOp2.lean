/-
  Contracts of the program's operations: Text; the document's Right and Text. Not a statement of the seat.
-/
import Derived.Test.YtiiipnfkkdfgbaaOp1
import Derived.Test.YtiiipnfkkdfgbaaNuTx
import Derived.Lib.QuietBelow
namespace Go.Proofs.Ytiiipnfkkdfgbaa.Op
open Go.ChangeShapes Go.WideShapes Go.ChangeAt Go.RowKit Base Nu Pk F Go.Lib
theorem itoaB {n : Int} (h : -9223372036854775808 ≤ n ∧ n ≤ 9223372036854775807) : ((⟨(itoa n).toArray⟩ : ByteArray)).size ≤ 20 := by
  show (itoa n).toArray.size ≤ 20
  simpa using itoa_len h.1 h.2
theorem textW (b : ByteArray) (l : List UInt8) (hb : b = ⟨l.toArray⟩) : (⟨#[119]⟩ ++ b : ByteArray) = ⟨(119 :: l).toArray⟩ := by
  subst hb
  apply ByteArray.ext
  simp
theorem textR1 (b c : ByteArray) (l m : List UInt8) (hb : b = ⟨l.toArray⟩) (hc : c = ⟨m.toArray⟩) : ((⟨#[114]⟩ ++ b ++ ⟨#[64]⟩ ++ c : ByteArray)) = ⟨(114 :: (l ++ 64 :: m)).toArray⟩ := by
  subst hb hc
  apply ByteArray.ext
  simp
theorem textR2 (b c d : ByteArray) (l m k : List UInt8) (hb : b = ⟨l.toArray⟩) (hc : c = ⟨m.toArray⟩) (hd : d = ⟨k.toArray⟩) : ((⟨#[114]⟩ ++ b ++ ⟨#[64]⟩ ++ c ++ ⟨#[46]⟩ ++ d : ByteArray)) = ⟨(114 :: (l ++ 64 :: (m ++ 46 :: k))).toArray⟩ := by
  subst hb hc hd
  apply ByteArray.ext
  simp
theorem ret_str {a b : ByteArray} (h : a = b) : Ending.returned (.string a) = .returned (.string b) := by rw [h]
end Go.Proofs.Ytiiipnfkkdfgbaa.Op
