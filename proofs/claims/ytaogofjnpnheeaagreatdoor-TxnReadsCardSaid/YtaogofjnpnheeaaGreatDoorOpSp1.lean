/-
  Contracts of what the program's reading of operations leans on: isNotDigits, ContainsFunc of it, Cut at a byte. Not a statement of the seat.
-/
import Derived.Test.YtaogofjnpnheeaaGreatDoorOpRead
import Derived.Test.YtaogofjnpnheeaaGreatDoorTxtAp
import Derived.Test.YtaogofjnpnheeaaGreatDoorShelf
import Derived.Shelf.Strings.SlTrimAscii
import Derived.BigQuiet
import Derived.Deep.QuietTactic
namespace Go.Proofs.YtaogofjnpnheeaaGreatDoor.Op
open Go.ChangeShapes Go.WideShapes Go.ChangeAt Go.RowKit Base Nu F Go.Lib Lst
theorem trim_any (s : ByteArray) (hs : s.size ≤ 9223372036854775807) (w : World) :
    Calls Tryz.prog 56 #[.string s, .string ⟨#[48, 49, 50, 51, 52, 53, 54, 55, 56, 57]⟩] w fun e w' => e = .returned (.string ⟨(Lib.trimS s.data.toList [48, 49, 50, 51, 52, 53, 54, 55, 56, 57]).toArray⟩) ∧ Below w.heap.size w w' :=
  Any.strings_Trim_laid Tryz.lays160 (by kernel_rfl) s ⟨#[48, 49, 50, 51, 52, 53, 54, 55, 56, 57]⟩ w hs (by decide) (ascii_of_all (by decide))
theorem trim_yes (l : List UInt8) : trimS l [48, 49, 50, 51, 52, 53, 54, 55, 56, 57] = [] ↔ l.all digB = true := by
  rw [← trim_digits, List.isEmpty_iff]
set_option maxHeartbeats 1000000 in
set_option maxRecDepth 100000 in
theorem isNot_any (s : ByteArray) (hs : s.size ≤ 9223372036854775807) (w : World) :
    Calls Tryz.prog 45 #[.string s] w fun e w' => e = .returned (.bool (!dgs s.data.toList)) ∧ Below w.heap.size w w' := by
  have htl : s.toList = s.data.toList := ByteArray.toList_eq s
  by_cases h0 : s.data.toList = []
  · have e1 : s.toList = [] := by rw [htl, h0]
    have e2 : s.toList.isEmpty = true := by rw [e1]; rfl
    have hd : dgs s.data.toList = false := by rw [h0]; rfl
    rw [hd]
    clear hd h0 htl hs
    go_enter Tryz.func45, Tryz.ntmps45
    go_wp2
    go_ret
    exact ⟨rfl, Below.refl _ _⟩
  have e2 : s.toList.isEmpty = false := by
    rw [htl]
    cases h : s.data.toList with
    | nil => exact absurd h h0
    | cons => rfl
  have e1 : (s.toList == []) = false := by
    rw [beq_eq_false_iff_ne, htl]; exact h0
  have HT := Lib.hid (fun w => trim_any s hs w)
  have hy := trim_yes s.data.toList
  have hd : dgs s.data.toList = s.data.toList.all digB := by
    unfold dgs
    rw [← htl, e2]
    simp
  rw [hd]
  generalize trimS s.data.toList [48, 49, 50, 51, 52, 53, 54, 55, 56, 57] = t at HT hy
  cases hb : s.data.toList.all digB
  · have ht : ¬ t = [] := fun e => by rw [hy.1 e] at hb; cases hb
    obtain ⟨b, hbb⟩ : ∃ b : ByteArray, b = ⟨t.toArray⟩ := ⟨_, rfl⟩
    rw [← hbb] at HT
    have f0 : b.toList = t := by rw [ByteArray.toList_eq, hbb]
    have f1 : b.toList.isEmpty = false := by
      rw [f0]
      cases t with
      | nil => exact absurd rfl ht
      | cons => rfl
    have f2 : (b.toList == []) = false := by rw [beq_eq_false_iff_ne, f0]; exact ht
    clear hy hd hb ht hbb f0 htl h0 hs
    go_enter Tryz.func45, Tryz.ntmps45
    go_wp2_with fail
    refine (HT.out _).mono ?_
    rintro e w1 ⟨rfl, hb1⟩
    go_wp2
    go_ret
    exact ⟨rfl, hb1⟩
  · have ht : t = [] := hy.2 hb
    subst ht
    clear hy hd hb htl h0 hs
    go_enter Tryz.func45, Tryz.ntmps45
    go_wp2_with fail
    refine (HT.out _).mono ?_
    rintro e w1 ⟨rfl, hb1⟩
    go_wp2
    go_ret
    exact ⟨rfl, hb1⟩
/-- What a search leaves: a place; or none. -/
def IdxPost (found : Bool) (w : World) (e : Ending) (w' : World) : Prop := (∃ i : Int, e = .returned (.int .i64 i) ∧ decide (0 ≤ i) = found) ∧ Below w.heap.size w w'
set_option maxHeartbeats 2000000 in
set_option maxRecDepth 100000 in
theorem idxF_any (w : World) (v : Value) (ps : List ByteArray) (hv : Txts 0 w v ps) (hs : ∀ p ∈ ps, p.size ≤ 9223372036854775807) (hl : ps.length ≤ 1000000) :
    Calls Tryz.prog 55 #[v, .func (.func 45) #[] #[]] w (IdxPost (!ps.all (fun p => dgs p.data.toList)) w) := by
  obtain ⟨p, c, rfl, hll, hc⟩ := hv.open_
  have HC : Hid (∀ X, Below w.heap.size w X → ∀ k, k < ps.length → ∃ g o, p = some ⟨g, o, none⟩ ∧ X.cell? ⟨g, o + k, none⟩ = some (.string (ps.getD k .empty))) := Lib.hid fun X hX k hk => by
    obtain ⟨g, o, hp, _, hg, hcc⟩ := hc k hk
    exact ⟨g, o, hp, (hX.cell (p := ⟨g, o + k, none⟩) hg).trans hcc⟩
  have HI : Hid (∀ k, k < ps.length → ∀ w, Calls Tryz.prog 45 #[.string (ps.getD k .empty)] w fun e w' => e = .returned (.bool (!dgs (ps.getD k .empty).data.toList)) ∧ Below w.heap.size w w') := Lib.hid fun k hk w => isNot_any _ (by
    rw [List.getD_eq_getElem?_getD, List.getElem?_eq_getElem hk]
    exact hs _ (List.getElem_mem _)) w
  have HN : Hid (∀ k, k < ps.length → dgs (ps.getD k .empty).data.toList = false → (!ps.all (fun p => dgs p.data.toList)) = true) := Lib.hid fun k hk hd => by
    have : ps.all (fun p => dgs p.data.toList) = false := by
      rw [List.all_eq_false]
      rw [List.getD_eq_getElem?_getD, List.getElem?_eq_getElem hk] at hd
      exact ⟨ps[k], List.getElem_mem _, by simpa using hd⟩
    rw [this]; rfl
  have HY : Hid ((∀ k, k < ps.length → dgs (ps.getD k .empty).data.toList = true) → (!ps.all (fun p => dgs p.data.toList)) = false) := Lib.hid fun h => by
    have : ps.all (fun p => dgs p.data.toList) = true := by
      rw [List.all_eq_true]
      intro q hq
      obtain ⟨k, hk, rfl⟩ := List.mem_iff_getElem.1 hq
      have := h k hk
      rw [List.getD_eq_getElem?_getD, List.getElem?_eq_getElem hk] at this
      exact this
    rw [this]; rfl
  clear hv hc hs hll
  generalize (!ps.all (fun p => dgs p.data.toList)) = r at HN HY ⊢
  generalize ps.length = n at *
  have eg : ∀ args w, (callFunc 45 args).run Tryz.prog w = .ok (.enter 45 args) w := enters_of Tryz.func45 (by kernel_rfl) rfl
  go_enter Tryz.func55, Tryz.ntmps55
  go_wp2
  go_loopw [5, 8] (fun _ s8 wr => ∃ k : Nat, s8 = .int .i64 (k : Int) ∧ k ≤ n ∧ Hid (∀ j, j < k → dgs (ps.getD j .empty).data.toList = true) ∧ Hid (Below w.heap.size w wr)) (fun _ s8 _ => n - (RowKit.intOf s8).toNat)
  case atStart => exact ⟨0, rfl, Nat.zero_le _, Lib.hid fun j hj => absurd hj (by omega), Lib.hid (Below.refl _ _)⟩
  case round =>
    obtain ⟨k, rfl, hk, HD, HB⟩ := hrel
    by_cases hlt : k < n
    · obtain ⟨g, o, rfl, hcell⟩ := HC.out wr HB.out k hlt
      have HIk := Lib.hid (HI.out k hlt)
      have HNk := Lib.hid (HN.out k hlt)
      have HDk : Hid (dgs (ps.getD k .empty).data.toList = true → ∀ j, j < k + 1 → dgs (ps.getD j .empty).data.toList = true) := Lib.hid fun h j hj => by
        by_cases e : j = k
        · rw [e]; exact h
        · exact HD.out j (by omega)
      generalize ps.getD k .empty = q at hcell HIk HNk HDk
      have hki : (k : Int) < (n : Int) := by omega
      cases hd : dgs q.data.toList
      · have hr := HNk.out hd
        subst hr
        rw [hd] at HIk
        clear HN HY HNk HDk HD HI HC hd
        go_wp2_with (go_at_fn 45; refine (HIk.out _).mono ?_; rintro e w1 ⟨rfl, hb⟩; have HB1 := Lib.hid (HB.out.trans (hb.mono HB.out.size)); clear hb)
        go_ret
        exact ⟨⟨_, rfl, decide_eq_true (by omega)⟩, HB1.out⟩
      · have HD2 := Lib.hid (HDk.out hd)
        rw [hd] at HIk
        clear HNk HDk HD hd
        go_wp2_with (go_at_fn 45; refine (HIk.out _).mono ?_; rintro e w1 ⟨rfl, hb⟩; have HB1 := Lib.hid (HB.out.trans (hb.mono HB.out.size)); clear hb)
        go_roundw
        case rel => exact ⟨k + 1, by go_num, by omega, HD2, HB1⟩
        case measure => simp [RowKit.intOf]; omega
    · obtain rfl : k = n := by omega
      have hr := HY.out HD.out
      subst hr
      have hki : ¬ (k : Int) < (k : Int) := by omega
      clear HN HY HD HI HC
      go_wp2
      go_ret
      exact ⟨⟨_, rfl, rfl⟩, HB.out⟩
set_option maxHeartbeats 1000000 in
set_option maxRecDepth 100000 in
theorem contF_any (w : World) (v : Value) (ps : List ByteArray) (hv : Txts 0 w v ps) (hs : ∀ p ∈ ps, p.size ≤ 9223372036854775807) (hl : ps.length ≤ 1000000) :
    Calls Tryz.prog 44 #[v, .func (.func 45) #[] #[]] w fun e w' => e = .returned (.bool (!ps.all (fun p => dgs p.data.toList))) ∧ Below w.heap.size w w' := by
  have HI := Lib.hid (idxF_any w v ps hv hs hl)
  obtain ⟨p, c, rfl, _⟩ := hv.open_
  clear hv hs
  generalize (!ps.all (fun p => dgs p.data.toList)) = r at HI ⊢
  go_enter Tryz.func44, Tryz.ntmps44
  go_wp2_with fail
  refine HI.out.mono ?_
  rintro e w1 ⟨⟨i, rfl, hi⟩, hb⟩
  have HB := Lib.hid hb
  have HI2 := Lib.hid hi
  clear hb hi
  go_wp2
  go_ret
  exact ⟨ret_bool HI2.out, HB.out⟩
end Go.Proofs.YtaogofjnpnheeaaGreatDoor.Op
