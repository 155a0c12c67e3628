/-
  Contract of the document's own answer on operations' texts: Read. Not a statement of the seat.
-/
import Derived.Test.YtjgmncpapcmleaaDoorOpRef2
import Derived.Test.YtjgmncpapcmleaaDoorOp2
import Derived.Test.YtjgmncpapcmleaaDoorTxtAp
import Derived.Test.YtjgmncpapcmleaaDoorOpNums
import Derived.Test.YtjgmncpapcmleaaDoorOprBox
import Derived.Deep.Cut
import Derived.Deep.CutRange
import Derived.Deep.DeepCutAuto
namespace Go.Proofs.YtjgmncpapcmleaaDoor.Op
open Go.ChangeShapes Go.WideShapes Go.ChangeAt Go.RowKit Base Nu F Go.Lib Lst
/-- What reading leaves. -/
def RdPost (l : List UInt8) (w : World) (e : Ending) (w' : World) : Prop :=
  e = .returned (.tuple #[.agg #[.bool (readO l).1.rd, .int .i64 (readO l).1.k, .int .i64 (readO l).1.t, .int .i64 (readO l).1.n], .int .i64 (readO l).2]) ∧ Below w.heap.size w w'
theorem readO_form {l : List UInt8} (h : parts l = []) : readO l = (Opr.zero, 5) := by unfold readO; rw [if_pos h]
theorem rd_form {l : List UInt8} (h : parts l = []) {w w' : World} (hb : Below w.heap.size w w') : RdPost l w (.returned (.tuple #[.agg #[.bool false, .int .i64 0, .int .i64 0, .int .i64 0], .int .i64 5])) w' := by
  unfold RdPost
  rw [readO_form h]
  exact ⟨rfl, hb⟩
set_option maxHeartbeats 2000000 in
set_option maxRecDepth 100000 in
theorem readR_f0 (s : ByteArray) (_ : s.size ≤ 1000) (w : World) (h : s.size = 0) :
    Calls Tryd.prog 9 #[.string s] w (RdPost s.data.toList w) := by
  have HF := Lib.hid (parts_none s h)
  have D1 : Hid (∀ w, Calls Tryd.prog 39 #[.string s, .int .i64 1] w fun e w' => e = .returned (.int .i64 (dgN s 1 : Nat)) ∧ w = w') := Lib.hid fun w => digits_any s 1 (by omega) (by omega) w
  have D2 := D1
  have HP : Hid (∀ w', Below w.heap.size w w' → RdPost s.data.toList w (.returned (.tuple #[.agg #[.bool false, .int .i64 0, .int .i64 0, .int .i64 0], .int .i64 5])) w') := Lib.hid fun w' hb => rd_form HF.out hb
  generalize RdPost s.data.toList w = Post at HP ⊢
  have e1 : s.toList = [] := by
    rw [ByteArray.toList_eq]
    exact List.length_eq_zero_iff.1 (by simpa using h)
  have e2 : s.toList.isEmpty = true := by rw [e1]; rfl
  clear h
  go_enter Tryd.func9, Tryd.ntmps9
  go_wp2_with (first | (go_at_call 39; refine (D1.out _).mono ?_; rintro e w1 ⟨rfl, rfl⟩) | (go_at_call 39; refine (D2.out _).mono ?_; rintro e w1 ⟨rfl, rfl⟩))
  refine bodyPost_ret (v := .tuple #[.agg #[.bool false, .int .i64 0, .int .i64 0, .int .i64 0], .int .i64 5]) (by simp [results, Tryd.results9, go_sem]) rfl (HP.out _ (by go_grown))
set_option maxHeartbeats 2000000 in
set_option maxRecDepth 100000 in
theorem readR_f1 (s : ByteArray) (hs : s.size ≤ 1000) (w : World) (h : 0 < s.size) (h1 : s[0] ≠ 119) (h2 : s[0] ≠ 114) :
    Calls Tryd.prog 9 #[.string s] w (RdPost s.data.toList w) := by
  have HF := Lib.hid (parts_head s h h1 h2)
  have D1 : Hid (∀ w, Calls Tryd.prog 39 #[.string s, .int .i64 1] w fun e w' => e = .returned (.int .i64 (dgN s 1 : Nat)) ∧ w = w') := Lib.hid fun w => digits_any s 1 (by omega) (by omega) w
  have D2 := D1
  have HP : Hid (∀ w', Below w.heap.size w w' → RdPost s.data.toList w (.returned (.tuple #[.agg #[.bool false, .int .i64 0, .int .i64 0, .int .i64 0], .int .i64 5])) w') := Lib.hid fun w' hb => rd_form HF.out hb
  generalize RdPost s.data.toList w = Post at HP ⊢
  have htl : s.toList = s.data.toList := ByteArray.toList_eq s
  have e2 : s.toList.isEmpty = false := by
    rw [htl, list_cons s h]; rfl
  have e1 : (s.toList == []) = false := by
    rw [htl, list_cons s h]; rfl
  clear htl
  have q1 : ((s[0].toNat : Int) != 119) = true := by rw [bne_iff_ne]; exact fun e => h1 (UInt8.toNat_inj.1 (by rw [show (119 : UInt8).toNat = 119 from rfl]; omega))
  have q2 : ((s[0].toNat : Int) != 114) = true := by rw [bne_iff_ne]; exact fun e => h2 (UInt8.toNat_inj.1 (by rw [show (114 : UInt8).toNat = 114 from rfl]; omega))
  clear h1 h2
  go_enter Tryd.func9, Tryd.ntmps9
  go_wp2_with (first | (go_at_call 39; refine (D1.out _).mono ?_; rintro e w1 ⟨rfl, rfl⟩) | (go_at_call 39; refine (D2.out _).mono ?_; rintro e w1 ⟨rfl, rfl⟩))
  refine bodyPost_ret (v := .tuple #[.agg #[.bool false, .int .i64 0, .int .i64 0, .int .i64 0], .int .i64 5]) (by simp [results, Tryd.results9, go_sem]) rfl (HP.out _ (by go_grown))
set_option maxHeartbeats 2000000 in
set_option maxRecDepth 100000 in
theorem readR_f2w (s : ByteArray) (hs : s.size ≤ 1000) (w : World) (h : 0 < s.size) (hc : s[0] = 119) (h1 : dgN s 1 = 0) :
    Calls Tryd.prog 9 #[.string s] w (RdPost s.data.toList w) := by
  have HF := Lib.hid (parts_dig s h h1)
  have D1 : Hid (∀ w, Calls Tryd.prog 39 #[.string s, .int .i64 1] w fun e w' => e = .returned (.int .i64 (dgN s 1 : Nat)) ∧ w = w') := Lib.hid fun w => digits_any s 1 (by omega) (by omega) w
  have D2 := D1
  have HP : Hid (∀ w', Below w.heap.size w w' → RdPost s.data.toList w (.returned (.tuple #[.agg #[.bool false, .int .i64 0, .int .i64 0, .int .i64 0], .int .i64 5])) w') := Lib.hid fun w' hb => rd_form HF.out hb
  generalize RdPost s.data.toList w = Post at HP ⊢
  rw [h1] at D1 D2
  have htl : s.toList = s.data.toList := ByteArray.toList_eq s
  have e2 : s.toList.isEmpty = false := by
    rw [htl, list_cons s h]; rfl
  have e1 : (s.toList == []) = false := by
    rw [htl, list_cons s h]; rfl
  clear htl
  have q1 : ((s[0].toNat : Int) != 119) = false := by rw [hc]; rfl
  have q3 : ((s[0].toNat : Int) == 114) = false := by rw [hc]; rfl
  clear hc h1
  go_enter Tryd.func9, Tryd.ntmps9
  go_wp2_with (first | (go_at_call 39; refine (D1.out _).mono ?_; rintro e w1 ⟨rfl, rfl⟩) | (go_at_call 39; refine (D2.out _).mono ?_; rintro e w1 ⟨rfl, rfl⟩))
  refine bodyPost_ret (v := .tuple #[.agg #[.bool false, .int .i64 0, .int .i64 0, .int .i64 0], .int .i64 5]) (by simp [results, Tryd.results9, go_sem]) rfl (HP.out _ (by go_grown))
set_option maxHeartbeats 2000000 in
set_option maxRecDepth 100000 in
theorem readR_f2r (s : ByteArray) (hs : s.size ≤ 1000) (w : World) (h : 0 < s.size) (hc : s[0] = 114) (h1 : dgN s 1 = 0) :
    Calls Tryd.prog 9 #[.string s] w (RdPost s.data.toList w) := by
  have HF := Lib.hid (parts_dig s h h1)
  have D1 : Hid (∀ w, Calls Tryd.prog 39 #[.string s, .int .i64 1] w fun e w' => e = .returned (.int .i64 (dgN s 1 : Nat)) ∧ w = w') := Lib.hid fun w => digits_any s 1 (by omega) (by omega) w
  have D2 := D1
  have HP : Hid (∀ w', Below w.heap.size w w' → RdPost s.data.toList w (.returned (.tuple #[.agg #[.bool false, .int .i64 0, .int .i64 0, .int .i64 0], .int .i64 5])) w') := Lib.hid fun w' hb => rd_form HF.out hb
  generalize RdPost s.data.toList w = Post at HP ⊢
  rw [h1] at D1 D2
  have htl : s.toList = s.data.toList := ByteArray.toList_eq s
  have e2 : s.toList.isEmpty = false := by
    rw [htl, list_cons s h]; rfl
  have e1 : (s.toList == []) = false := by
    rw [htl, list_cons s h]; rfl
  clear htl
  have q1 : ((s[0].toNat : Int) != 119) = true := by rw [hc]; rfl
  have q2 : ((s[0].toNat : Int) != 114) = false := by rw [hc]; rfl
  have q3 : ((s[0].toNat : Int) == 114) = true := by rw [hc]; rfl
  clear hc h1
  go_enter Tryd.func9, Tryd.ntmps9
  go_wp2_with (first | (go_at_call 39; refine (D1.out _).mono ?_; rintro e w1 ⟨rfl, rfl⟩) | (go_at_call 39; refine (D2.out _).mono ?_; rintro e w1 ⟨rfl, rfl⟩))
  refine bodyPost_ret (v := .tuple #[.agg #[.bool false, .int .i64 0, .int .i64 0, .int .i64 0], .int .i64 5]) (by simp [results, Tryd.results9, go_sem]) rfl (HP.out _ (by go_grown))
end Go.Proofs.YtjgmncpapcmleaaDoor.Op
