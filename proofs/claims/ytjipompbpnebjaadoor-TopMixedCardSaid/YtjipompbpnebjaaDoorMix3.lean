/-
  Contracts of the program's mixes of many numbers: Ints, Text, and a nil sum's Value. Not a statement of the seat.
-/
import Derived.Test.YtjipompbpnebjaaDoorMix2
namespace Go.Proofs.YtjipompbpnebjaaDoor.Mx
open Go.ChangeShapes Go.WideShapes Go.ChangeAt Go.RowKit Base Lst
/-- What a call that tells a number, and may make memory, leaves. -/
def U64Post (r : Nat) (w : World) (e : Ending) (w' : World) : Prop := e = .returned (.int .u64 (r : Int)) ∧ Below w.heap.size w w'
theorem below_grown {B : Nat} {W w w' : World} {b : Nat} (h : Below B W w) (hB : B ≤ W.heap.size) (hg : w.grownBy w' (some b)) (hb : B ≤ b) : Below B W w' :=
  h.grown hg (Nat.le_trans hB h.size) (fun k hk => by cases hk; exact hb)
set_option maxHeartbeats 1000000 in
theorem intsP_any {xs : List Int} {v : Value} (w : World) (hl : Ints 0 w v xs) (hc : xs.length ≤ 1000000000) :
    Calls Tryd.prog 21 #[v] w (U64Post (intsN xs) w) := by
  have HL := Lib.hid hl
  have HR : Hid (valueN (stateN 0 xs) (0 + xs.length) = intsN xs) := Lib.hid (by rw [Nat.zero_add]; rfl)
  go_enter Tryd.func21, Tryd.ntmps21
  go_wp2_with fail
  refine (new_any _).mono ?_
  rintro e w1 ⟨rfl, hS, hB⟩
  have HA := Lib.hid (add_any w w.heap.size 0 0 w1 HL.out hB (.inl (Nat.le_refl _)) hS (by omega))
  have HB := Lib.hid hB
  clear hS hB
  go_wp2_with fail
  refine (HA.out).mono ?_
  rintro e w2 ⟨rfl, hS, hg⟩
  have HB2 := Lib.hid (below_grown HB.out (Nat.le_refl _) hg (Nat.le_refl _))
  have HV := Lib.hid (value_any _ _ _ w2 hS)
  rw [HR.out] at HV
  clear hS hg HB HA HR
  go_wp2_with fail
  refine (HV.out).mono ?_
  rintro e w3 ⟨rfl, n, rfl⟩
  go_wp2
  go_ret
  exact ⟨rfl, below_drewN HB2.out n⟩
theorem value_nil (w : World) : Calls Tryd.prog 24 #[.pointer none] w (U64Post (intsN []) w) := by
  have HI := Lib.hid (intsP_any (xs := []) (v := .slice none 0 0) w Ints.nil (by decide))
  generalize intsN [] = r at HI ⊢
  go_enter Tryd.func24, Tryd.ntmps24
  go_wp2_with fail
  refine (HI.out).mono ?_
  rintro e w1 ⟨rfl, hb⟩
  go_wp2
  go_ret
  exact ⟨rfl, hb⟩
end Go.Proofs.YtjipompbpnebjaaDoor.Mx
