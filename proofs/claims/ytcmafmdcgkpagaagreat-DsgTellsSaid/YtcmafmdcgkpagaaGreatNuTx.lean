/-
  Contract of the program's numbers: Text. Not a statement of the seat.
-/
import Derived.Test.YtcmafmdcgkpagaaGreatNuLen
import Derived.Test.YtcmafmdcgkpagaaGreatShelf
import Derived.Lib.SmallJoins
namespace Go.Proofs.YtcmafmdcgkpagaaGreat.Nu
open Go.ChangeShapes Go.WideShapes Go.ChangeAt Go.RowKit Go.Lib Lst
/-- The library's table of powers of ten is as its text lays it. -/
def Pow (w : World) : Prop := Lib.TabIs Tryz.prog w "internal/strconv.uint64pow10" .u64 Lib.pow10Tab
theorem below_grow (w : World) (k : Nat) (os : Array Obj) : Below w.heap.size w (Go.Sort.grow (w.drewN k) os) :=
  ⟨rfl, rfl, rfl, by show w.heap.size ≤ (w.heap ++ os).size; simp, fun b hb => by show (w.heap ++ os)[b]? = w.heap[b]?; rw [Array.getElem?_append_left hb]⟩
/-- What a call that tells a text, and may make memory, leaves. -/
def TextPost (l : List UInt8) (w : World) (e : Ending) (w' : World) : Prop := e = .returned (.string ⟨l.toArray⟩) ∧ Below w.heap.size w w'
end Go.Proofs.YtcmafmdcgkpagaaGreat.Nu
