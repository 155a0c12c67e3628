/-
  Contracts of small functions, several texts laid into one. Not a statement of the seat.
-/
import Derived.Test.YtcmafmdcgkpagaaGreatTxMath
import Derived.Test.YtcmafmdcgkpagaaGreatHead1
import Derived.Test.YtcmafmdcgkpagaaGreatOprBox
import Derived.Test.YtcmafmdcgkpagaaGreatLstAp
import Derived.Test.YtcmafmdcgkpagaaGreatHead2
namespace Go.Proofs.YtcmafmdcgkpagaaGreat.Tx
open Go.ChangeShapes Go.WideShapes Go.ChangeAt Go.RowKit Base F Lst
set_option maxRecDepth 100000 in
set_option maxHeartbeats 1000000 in
theorem rwrites_any {base : Nat} {s : Value} {l : List Opr} (key : Int) (w : World) (h : Oprs base w s l) (hl : l.length ≤ 1000000) : Calls Tryz.prog 33 #[s, .int .i64 key] w (IntNew (wrN l key : Nat) w) := by
  obtain ⟨p, c, rfl, _, hc⟩ := h.open_
  have HC := Lib.hid hc
  have HE : Hid (∀ n w', n = wrN l key → Aft w w' → IntNew (wrN l key : Nat) w (.returned (.int .i64 (n : Nat))) w') := Lib.hid fun n w' h1 h2 => ⟨by rw [h1], h2⟩
  clear h hc
  generalize IntNew (wrN l key : Nat) w = Post at HE ⊢
  go_enter Tryz.func33, Tryz.ntmps33
  go_wp2
  go_loopw [5, 10] (fun s5 s10 wr => ∃ k n : Nat, s10 = .int .i64 k ∧ s5 = .int .i64 n ∧ k ≤ l.length ∧ n ≤ k ∧ Hid (n = wrN (l.take k) key) ∧ Hid (Aft w wr)) (fun _ s10 _ => l.length - (intOf s10).toNat)
  case atStart => exact ⟨0, 0, rfl, rfl, Nat.zero_le _, Nat.le_refl _, Lib.hid rfl, Lib.hid (Aft.refl _)⟩
  case round =>
    obtain ⟨k, n, rfl, rfl, hk, hn, HN, HW⟩ := hrel
    by_cases hlt : k < l.length
    · obtain ⟨g', o', rfl, _, hg', c0, c1, c2, c3⟩ := HC.out k hlt
      have d0 := HW.out.cell hg' c0
      have d1 := HW.out.cell hg' c1
      have d2 := HW.out.cell hg' c2
      have d3 := HW.out.cell hg' c3
      have HS : Hid (wrN (l.take (k + 1)) key = wrN (l.take k) key + (if (l.getD k Opr.zero).rd = false ∧ (l.getD k Opr.zero).k = key then 1 else 0)) := Lib.hid (by rw [take_snoc l Opr.zero k hlt, wrN_snoc])
      have HW2 : Hid (∀ o, Aft w (wr.alloc o)) := Lib.hid fun o => HW.out.lay o
      clear c0 c1 c2 c3
      generalize l.getD k Opr.zero = x at d0 d1 d2 d3 HS
      by_cases hx : x.rd = false ∧ x.k = key
      · have HN2 : Hid (n + 1 = wrN (l.take (k + 1)) key) := Lib.hid (by rw [HS.out, if_pos hx, HN.out])
        obtain ⟨hx1, hx2⟩ := hx
        rw [hx1] at d0
        rw [hx2] at d1
        clear HS HN hx1 hx2
        go_wp2
        go_roundw
        case rel => exact ⟨k + 1, n + 1, by go_num, by go_num, by omega, by omega, HN2, Lib.hid (HW2.out _)⟩
        case measure => simp [intOf]; omega
      · have HN2 : Hid (n = wrN (l.take (k + 1)) key) := Lib.hid (by rw [HS.out, if_neg hx, HN.out]; rfl)
        cases hr : x.rd with
        | true =>
          rw [hr] at d0
          clear HS HN hx hr
          go_wp2
          go_roundw
          case rel => exact ⟨k + 1, n, by go_num, rfl, by omega, by omega, HN2, Lib.hid (HW2.out _)⟩
          case measure => simp [intOf]; omega
        | false =>
          rw [hr] at d0
          have hd : (x.k == key) = false := by rw [beq_eq_false_iff_ne]; exact fun e => hx ⟨hr, e⟩
          clear HS HN hx hr
          go_wp2
          go_roundw
          case rel => exact ⟨k + 1, n, by go_num, rfl, by omega, by omega, HN2, Lib.hid (HW2.out _)⟩
          case measure => simp [intOf]; omega
    · have HR : Hid (n = wrN l key) := Lib.hid (by rw [HN.out, List.take_of_length_le (by omega)])
      clear HN
      go_wp2
      exact HE.out _ _ HR.out HW.out
end Go.Proofs.YtcmafmdcgkpagaaGreat.Tx
namespace Go.Proofs.YtcmafmdcgkpagaaGreat.Tx
open Go.ChangeShapes Go.WideShapes Go.ChangeAt Go.RowKit Base F Lst Go.Lib
def idB (x : Int) : Bool := decide (1 ≤ x ∧ x ≤ 1048575)
theorem tid_any (x : Int) (w : World) : Calls Tryz.prog 43 #[.int .i64 x] w fun e w' => e = .returned (.bool (idB x)) ∧ w = w' := by
  by_cases h1 : 1 ≤ x
  · by_cases h2 : x ≤ 1048575
    · have hi : idB x = true := decide_eq_true ⟨h1, h2⟩
      rw [hi]
      clear hi
      go_enter Tryz.func43, Tryz.ntmps43
      go_wp2
      go_ret
      exact ⟨ret_bool (by simp), rfl⟩
    · have hi : idB x = false := decide_eq_false fun h => h2 h.2
      rw [hi]
      clear hi
      go_enter Tryz.func43, Tryz.ntmps43
      go_wp2
      go_ret
      exact ⟨ret_bool (by simp), rfl⟩
  · have hi : idB x = false := decide_eq_false fun h => h1 h.1
    rw [hi]
    clear hi
    go_enter Tryz.func43, Tryz.ntmps43
    go_wp2
    go_ret
    exact ⟨ret_bool (by simp), rfl⟩
theorem oprs_take {base g o n c c' k : Nat} {w : World} {l : List Opr} (h : Oprs base w (.slice (some ⟨g, o, none⟩) n c) l) (hk : k < l.length) : Oprs base w (.slice (some ⟨g, o, none⟩) k c') (l.take k) := by
  have hlen : (l.take k).length = k := by rw [List.length_take]; omega
  rcases h with ⟨⟨p, c2, _⟩, hz⟩ | ⟨g1, o1, c1, hv, h0, h1, h2, h3⟩
  · rw [hz] at hk; cases hk
  · injection hv with e1 e2 e3
    injection e1 with e1
    injection e1 with e1 e4
    subst e1 e4
    refine .inr ⟨g, o, c', by rw [hlen], h0, h1, by omega, fun j hj => ?_⟩
    rw [hlen] at hj
    have := h3 j (by omega)
    have hg : (l.take k).getD j Opr.zero = l.getD j Opr.zero := by
      rw [List.getD_eq_getElem?_getD, List.getD_eq_getElem?_getD, List.getElem?_take, if_pos hj]
    rw [hg]
    exact this
end Go.Proofs.YtcmafmdcgkpagaaGreat.Tx
