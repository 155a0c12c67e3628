/-
  Contracts of the program's reading of operations: Cut at a byte; split. Not a statement of the seat.
-/
import Derived.Test.YtaogofjnpnheeaaGreatDoorOpSp1
namespace Go.Proofs.YtaogofjnpnheeaaGreatDoor.Op
open Go.ChangeShapes Go.WideShapes Go.ChangeAt Go.RowKit Base Nu F Go.Lib Lst
/-- A text of some bytes. -/
def toB (l : List UInt8) : ByteArray := ⟨l.toArray⟩
theorem toB_list (l : List UInt8) : (toB l).data.toList = l := rfl
theorem toB_size (l : List UInt8) : (toB l).size = l.length := by
  show l.toArray.size = l.length
  simp
theorem list_toB (s : ByteArray) : toB s.data.toList = s := by
  apply ByteArray.ext
  simp [toB]
theorem ext_toB (s : ByteArray) (a b : Nat) : s.extract a b = toB ((s.data.toList.take b).drop a) := by
  rw [← list_toB (s.extract a b), ByteArray.data_extract, Array.toList_extract, List.extract_eq_take_drop, List.drop_take]
theorem ret_tup3 {a b a' b' : ByteArray} {c c' : Bool} (h1 : a = a') (h2 : b = b') (h3 : c = c') : Ending.returned (.tuple #[.string a, .string b, .bool c]) = .returned (.tuple #[.string a', .string b', .bool c']) := by rw [h1, h2, h3]
set_option maxHeartbeats 1000000 in
set_option maxRecDepth 100000 in
theorem cutl_any (s : ByteArray) (c : UInt8) (hs : s.size ≤ 9223372036854775807) (w : World) :
    Calls Tryz.prog 54 #[.string s, .string ⟨#[c]⟩] w fun e w' => e = .returned (.tuple #[.string (toB (cutA c s.data.toList)), .string (toB (cutB c s.data.toList)), .bool (cutF c s.data.toList)]) ∧ ∃ q, w' = w.drewN q := by
  have HI := Lib.hid (fun w => Tryz.stringslite_Index_one s c w)
  have hlt := indexByte_lt s.data.toList c
  have hge := indexByte_ge s.data.toList c
  have hno := cut_no s.data.toList c
  have hyes := cut_yes s.data.toList c
  have hl : s.data.toList.length = s.size := by simp
  rw [hl] at hlt
  generalize indexByte s.data.toList c = i at *
  by_cases h0 : i = -1
  · obtain ⟨e1, e2, e3⟩ := hno h0
    rw [e1, e2, e3, list_toB]
    subst h0
    clear hno hyes hl hge hlt e1 e2 e3 hs
    go_enter Tryz.func54, Tryz.ntmps54
    go_wp2_with fail
    refine (HI.out _).mono ?_
    rintro e w1 ⟨rfl, rfl⟩
    go_wp2
    refine bodyPost_ret (v := .tuple #[.string s, .string ⟨#[]⟩, .bool false]) (by simp [results, Tryz.results54, go_sem]) rfl ⟨rfl, 0, rfl⟩
  · obtain ⟨k, rfl⟩ : ∃ k : Nat, i = k := ⟨i.toNat, by omega⟩
    obtain ⟨e1, e2, e3⟩ := hyes k rfl
    have x1 : s.extract 0 k = toB (s.data.toList.take k) := by rw [ext_toB s 0 k]; rfl
    have x2 : s.extract (k + 1) s.size = toB (s.data.toList.drop (k + 1)) := by
      rw [ext_toB s _ _, ← hl, List.take_length]
    have HE : Hid (cutA c s.data.toList = s.data.toList.take k ∧ cutB c s.data.toList = s.data.toList.drop (k + 1) ∧ cutF c s.data.toList = true) := Lib.hid ⟨e1, e2, e3⟩
    have HX := Lib.hid (And.intro x1 x2)
    have hk : (k : Int) < (s.size : Int) := hlt
    have hk2 : (k : Int) + 1 ≤ (s.size : Int) := by omega
    have hk3 : (k : Int) + 1 ≤ 9223372036854775807 := by omega
    have hk4 : IntKind.i64.wrap ((k : Int) + 1) = (k : Int) + 1 := by rw [IntKind.wrap_i64]; omega
    have hk0 : (0 : Int) ≤ (k : Int) := by omega
    clear hno hyes hl hge hlt e1 e2 e3 x1 x2 h0
    go_enter Tryz.func54, Tryz.ntmps54
    go_wp2_with fail
    refine (HI.out _).mono ?_
    rintro e w1 ⟨rfl, rfl⟩
    go_wp2_with fail
    go_quiet (fail)
    go_wp2
    refine bodyPost_ret (v := .tuple #[.string (s.extract 0 k), .string (s.extract (k + 1) s.size), .bool true]) (by simp [results, Tryz.results54, go_sem]) rfl ⟨?_, _, rfl⟩
    rw [HE.out.1, HE.out.2.1, HE.out.2.2]
    exact ret_tup3 HX.out.1 HX.out.2 rfl
set_option maxRecDepth 100000 in
theorem cut_any (s : ByteArray) (c : UInt8) (hs : s.size ≤ 9223372036854775807) (w : World) :
    Calls Tryz.prog 43 #[.string s, .string ⟨#[c]⟩] w fun e w' => e = .returned (.tuple #[.string (toB (cutA c s.data.toList)), .string (toB (cutB c s.data.toList)), .bool (cutF c s.data.toList)]) ∧ ∃ q, w' = w.drewN q := by
  have HI := Lib.hid (fun w => cutl_any s c hs w)
  generalize toB (cutA c s.data.toList) = x at HI ⊢
  generalize toB (cutB c s.data.toList) = y at HI ⊢
  generalize cutF c s.data.toList = z at HI ⊢
  go_enter Tryz.func43, Tryz.ntmps43
  go_wp2_with fail
  refine (HI.out _).mono ?_
  rintro e w1 ⟨rfl, q, rfl⟩
  go_wp2
  exact bodyPost_ret (v := .tuple #[.string x, .string y, .bool z]) (by simp [results, Tryz.results43, go_sem]) rfl ⟨rfl, q, rfl⟩
theorem cutA_len : ∀ (l : List UInt8) (c : UInt8), (cutA c l).length ≤ l.length
  | [], _ => Nat.le_refl _
  | x :: l, c => by
    unfold cutA
    split
    · simp
    · simp; exact cutA_len l c
theorem cutB_len : ∀ (l : List UInt8) (c : UInt8), (cutB c l).length ≤ l.length
  | [], _ => Nat.le_refl _
  | x :: l, c => by
    unfold cutB
    split
    · simp
    · have := cutB_len l c; simp; omega
/-- What splitting leaves. -/
def SplPost (l : List UInt8) (w : World) (e : Ending) (w' : World) : Prop := ∃ v, e = .returned v ∧ OwnT w.heap.size w' v ((parts l).map toB) ∧ Below w.heap.size w w'
theorem cutP_any (s : ByteArray) (c : UInt8) (w : World) :
    Calls Tryz.prog 42 #[.string s, .string ⟨#[c]⟩] w fun e w' => e = .returned (.tuple #[.string (toB (Lib.trimPrefix s.data.toList [c])), .bool (Lib.hasPrefix s.data.toList [c])]) ∧ w = w' :=
  (Tryz.strings_CutPrefix s ⟨#[c]⟩ w).mono fun _ _ ⟨h1, h2⟩ => ⟨h1, h2.symm⟩
theorem pre_yes {l r : List UInt8} {c : UInt8} (h : l = c :: r) : Lib.hasPrefix l [c] = true ∧ Lib.trimPrefix l [c] = r := by
  subst h
  unfold trimPrefix hasPrefix
  simp
theorem pre_no {l : List UInt8} {c : UInt8} (h : l.head? ≠ some c) : Lib.hasPrefix l [c] = false := by
  unfold hasPrefix
  cases l with
  | nil => rfl
  | cons x r =>
    rw [Bool.eq_false_iff]
    intro e
    simp [List.isPrefixOf] at e h
    exact h e.symm
end Go.Proofs.YtaogofjnpnheeaaGreatDoor.Op
