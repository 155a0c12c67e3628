/-
  Contracts of the document's own answers on numbers: Read. Not a statement of the seat.
-/
import Derived.Test.YtaogofjnpnheeaaGreatDoorHead
namespace Go.Proofs.YtaogofjnpnheeaaGreatDoor.Nu
open Go.ChangeShapes Go.WideShapes Go.ChangeAt Go.RowKit Go.Lib Lst
/-- Is a byte a digit? -/
def digB (c : UInt8) : Bool := decide (48 ≤ c.toNat ∧ c.toNat ≤ 57)
/-- One digit more, as far as the number is not too great already. -/
def capStep (n : Nat) (c : UInt8) : Nat := if n ≤ 2147483647 then 10 * n + (c.toNat - 48) else n
/-- The number of a text, and why it has none. -/
def readL (l : List UInt8) : Int × Int :=
  if l = [] ∨ (1 < l.length ∧ l.head? = some 48) then (0, 10)
  else if l.all digB = true then (if 2147483647 < l.foldl capStep 0 then (0, 1) else ((l.foldl capStep 0 : Nat), 0)) else (0, 10)
theorem capStep_bd {n : Nat} {c : UInt8} (hn : n ≤ 30000000000) (hd : digB c = true) : capStep n c ≤ 30000000000 := by
  have h := of_decide_eq_true hd
  unfold capStep
  split <;> omega
theorem fold_cap_bd : ∀ (l : List UInt8) (n : Nat), n ≤ 30000000000 → l.all digB = true → l.foldl capStep n ≤ 30000000000
  | [], n, h, _ => h
  | c :: l, n, h, hd => by
    rw [List.all_cons, Bool.and_eq_true] at hd
    rw [List.foldl_cons]
    exact fold_cap_bd l _ (capStep_bd h hd.1) hd.2
theorem take_snoc (s : ByteArray) (k : Nat) (h : k < s.size) : s.data.toList.take (k + 1) = s.data.toList.take k ++ [s[k]] := by
  rw [List.take_succ_eq_append_getElem (by simpa using h)]; rfl
end Go.Proofs.YtaogofjnpnheeaaGreatDoor.Nu
