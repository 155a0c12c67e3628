/-
  Mixes as plain numbers. Not a statement of the seat.
-/
import Derived.Laws.BitsAllLaws
import Derived.Lib.Hide
import Derived.Test.YtjipompbpnebjaaDoorBase
namespace Go.Proofs.YtjipompbpnebjaaDoor.Mx
open Go.ChangeShapes Go.WideShapes Go.ChangeAt Go.RowKit Base
/-- A number put together with itself moved down. -/
def foldN (x n : Nat) : Nat := x ^^^ (x / 2 ^ n)
theorem foldN_lt {x n : Nat} (h : x < 18446744073709551616) : foldN x n < 18446744073709551616 :=
  Nat.xor_lt_two_pow (n := 64) h (Nat.lt_of_le_of_lt (Nat.div_le_self _ _) h)
def mulN (x m : Nat) : Nat := x * m % 18446744073709551616
theorem mulN_lt (x m : Nat) : mulN x m < 18446744073709551616 := Nat.mod_lt _ (by decide)
theorem mulN_wrap (x m : Nat) : IntKind.u64.wrap ((x : Int) * (m : Int)) = (mulN x m : Nat) := by
  unfold mulN
  rw [IntKind.wrap_u64, Int.natCast_emod, Int.natCast_mul]
  rfl
/-- The mix of a number. -/
def mixN (x : Nat) : Nat := foldN (mulN (foldN (mulN (foldN x 32) 15485907386658061715) 29) 11562461410679940143) 32
theorem mixN_lt (x : Nat) : mixN x < 18446744073709551616 := foldN_lt (mulN_lt _ _)
theorem mixN_eq (x : Nat) : mixN x = foldN (mulN (foldN (mulN (foldN x 32) 15485907386658061715) 29) 11562461410679940143) 32 := rfl
attribute [irreducible] mixN
/-- A number as 64 bits. -/
def u64N (n : Int) : Nat := (n % 18446744073709551616).toNat
theorem u64N_wrap (n : Int) : IntKind.u64.wrap n = (u64N n : Nat) := by
  unfold u64N
  rw [IntKind.wrap_u64]
  omega
theorem u64N_lt (n : Int) : u64N n < 18446744073709551616 := by unfold u64N; omega
/-- The state behind some numbers. -/
def stateN (h : Nat) (l : List Int) : Nat := l.foldl (fun h n => mixN (h ^^^ u64N n)) h
theorem stateN_lt : ∀ (l : List Int) (h : Nat), h < 18446744073709551616 → stateN h l < 18446744073709551616
  | [], _, hh => hh
  | _ :: l, _, _ => stateN_lt l _ (mixN_lt _)
theorem stateN_snoc {l : List Int} {h k : Nat} (hk : k < l.length) : stateN h (l.take (k + 1)) = mixN (stateN h (l.take k) ^^^ u64N (l.getD k 0)) := by
  have e : l.getD k 0 = l[k] := by simp [hk]
  rw [e]
  unfold stateN
  rw [List.take_succ_eq_append_getElem hk, List.foldl_append, List.foldl_cons, List.foldl_nil]
/-- Many numbers as one. -/
def valueN (h m : Nat) : Nat := mixN ((h + m) % 18446744073709551616)
def intsN (l : List Int) : Nat := valueN (stateN 0 l) l.length
/-- The bytes of a text, as numbers. -/
def bytesL (l : List UInt8) : List Int := l.map fun c => (c.toNat : Int)
theorem bytes_snoc (s : ByteArray) (k : Nat) (h : k < s.size) : bytesL (s.data.toList.take (k + 1)) = bytesL (s.data.toList.take k) ++ [((s[k]).toNat : Int)] := by
  unfold bytesL
  rw [List.take_succ_eq_append_getElem (by simpa using h), List.map_append]
  rfl
end Go.Proofs.YtjipompbpnebjaaDoor.Mx
