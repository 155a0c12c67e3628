/-
  A contract of List: the places of a row that are set, rising, in a new slice. Not a statement of the seat.
-/
import Derived.Test.YtakgepdlninnhaaDoorRow2
import Derived.Test.YtakgepdlninnhaaDoorHead16
import Derived.OwnWalk
import Derived.Laws.OwnMore
namespace Go.Proofs.YtakgepdlninnhaaDoor.Bits
open Go.ChangeShapes Go.WideShapes Go.ChangeAt Go.RowKit Base
/-- The places of V from a on, below n, rising. -/
def placesTo (V k : Nat) : List Nat := (List.range k).filter (V.testBit ·)
def vals (l : List Nat) : List Value := l.map fun j => .int .i64 (j : Nat)
theorem placesTo_step {V a j : Nat} (haj : a ≤ j) (hj : V.testBit j = true) (hno : ∀ m, a ≤ m → m < j → V.testBit m = false) : placesTo V (j + 1) = placesTo V a ++ [j] := by
  unfold placesTo
  rw [List.range_succ, List.filter_append, show j = a + (j - a) by omega, List.range_add, List.filter_append]
  have h1 : (List.map (a + ·) (List.range (j - a))).filter (V.testBit ·) = [] := by
    rw [List.filter_eq_nil_iff]
    intro m hm
    simp only [List.mem_map, List.mem_range] at hm
    obtain ⟨d, hd, rfl⟩ := hm
    rw [hno (a + d) (by omega) (by omega)]
    simp
  rw [h1, List.append_nil, show a + (j - a) = j by omega]
  simp [hj]
theorem placesTo_end {V a n : Nat} (han : a ≤ n) (hno : ∀ m, a ≤ m → m < n → V.testBit m = false) : placesTo V n = placesTo V a := by
  unfold placesTo
  rw [show n = a + (n - a) by omega, List.range_add, List.filter_append]
  have h1 : (List.map (a + ·) (List.range (n - a))).filter (V.testBit ·) = [] := by
    rw [List.filter_eq_nil_iff]
    intro m hm
    simp only [List.mem_map, List.mem_range] at hm
    obtain ⟨d, hd, rfl⟩ := hm
    rw [hno (a + d) (by omega) (by omega)]
    simp
  rw [h1, List.append_nil]
theorem placesTo_len (V k : Nat) : (placesTo V k).length ≤ k := by
  unfold placesTo
  have := List.length_filter_le (V.testBit ·) (List.range k)
  simpa using this
/-- Next, whatever the row's length, from a place on. -/
theorem next_any (b g n V i : Nat) (w : World) (h : RowAt w b g n V) (hT : TabAt 0 Lib.deBruijn64tab w) :
    Calls Tryd.prog 51 #[.pointer (some ⟨b, 0, none⟩), .int .i64 (i : Int)] w fun e w' => (∃ r, e = .returned (.int .i64 r) ∧ NextP n V i r) ∧ ∃ q, w' = w.drewN q :=
  next_at b g n V i i (by omega) w h fun _ => hT
theorem int_info : (Tryd.prog.info? 3).map (fun i => (i.zero, i.size, i.bytes)) = some (some (.int .i64 0), 1, 8) := by kernel_rfl
theorem own_base {w : World} {base : Nat} {e : TypeId} {size n : Nat} {v : Value} {xs : List Value} (h : w.ownsRow base e size v n xs) : ∀ k, v.ownBlock = some k → base ≤ k := by
  intro k hk
  rcases h.2 with ⟨rfl, _⟩ | ⟨g, cap, cur, rfl, hb, _⟩
  · simp [Value.ownBlock] at hk
  · simp [Value.ownBlock] at hk; omega
/-- What is left to be told, by the place that is next. -/
def meas (n : Nat) (v : Value) : Nat := if intOf v < 0 then 0 else n + 1 - (intOf v).toNat
theorem meas_neg (n : Nat) : meas n (.int .i64 (-1)) = 0 := rfl
theorem meas_nat (n j : Nat) : meas n (.int .i64 (j : Nat)) = n + 1 - j := by
  unfold meas
  rw [show intOf (.int .i64 (j : Nat)) = (j : Int) from rfl, if_neg (by omega), Int.toNat_natCast]
set_option maxHeartbeats 2000000 in
theorem list_any (b g n V : Nat) (w : World) (h : RowAt w b g n V) (hT : TabAt 0 Lib.deBruijn64tab w) (hg : 0 < w.heap.size) :
    Calls Tryd.prog 33 #[.pointer (some ⟨b, 0, none⟩)] w fun e w' => (∃ v, e = .returned v ∧ w'.ownsRow w.heap.size 3 1 v (placesTo V n).length (vals (placesTo V n)) ∧ v ≠ .slice none 0 0) ∧ Below w.heap.size w w' := by
  obtain ⟨i0, hi, hz0, hz1, hz2⟩ := info_parts int_info
  have hn := h.2.2.1
  have HC := Lib.hid (count_any b g n V w h)
  have HR := Lib.hid h
  have HT := Lib.hid hT
  have HNX : Hid (∀ i wx, Below w.heap.size w wx → Calls Tryd.prog 51 #[.pointer (some ⟨b, 0, none⟩), .int .i64 ((i : Nat) : Int)] wx fun e w' => (∃ r, e = .returned (.int .i64 r) ∧ NextP n V i r) ∧ ∃ q, w' = wx.drewN q) := Lib.hid fun i wx hb =>
    next_any b g n V i wx (h.below hb) fun j hj => (hb.cell (p := ⟨_, j, none⟩) hg).trans (hT j hj)
  have HN0 : Hid (∀ wx, Below w.heap.size w wx → Calls Tryd.prog 51 #[.pointer (some ⟨b, 0, none⟩), .int .i64 0] wx fun e w' => (∃ r, e = .returned (.int .i64 r) ∧ NextP n V 0 r) ∧ ∃ q, w' = wx.drewN q) := Lib.hid fun wx hb => HNX.out 0 wx hb
  have HN1 : Hid (∀ (j : Nat) wx, Below w.heap.size w wx → Calls Tryd.prog 51 #[.pointer (some ⟨b, 0, none⟩), .int .i64 ((j : Int) + 1)] wx fun e w' => (∃ r, e = .returned (.int .i64 r) ∧ NextP n V (j + 1) r) ∧ ∃ q, w' = wx.drewN q) := Lib.hid fun j wx hb => HNX.out (j + 1) wx hb
  clear HNX
  have hcn : pc n V ≤ n := pc_le _ _
  generalize pc n V = c at HC hcn
  clear h hT
  go_enter Tryd.func33, Tryd.ntmps33
  go_wp2_with fail
  refine (HC.out).mono ?_
  rintro e wx ⟨rfl, rfl⟩
  go_wp2_with (at_make; refine wpList_make_own _ rfl _ _ _ rfl w.heap.size 3 i0 (.int .i64 0) 1 Tryd.underlying30 hi hz0 hz1 .i64 .i64 _ c rfl rfl (by omega) (by rw [hz2]; omega) (by simp only [maxLen]; omega) (Nat.le_refl _) ?_; intro w1 hown hgr)
  have HB1 := Lib.hid ((Below.refl w.heap.size w).grown hgr (Nat.le_refl _) (by intro k hk; cases hk))
  have HO := Lib.hid hown
  clear hown hgr
  refine (HN0.out _ HB1.out).mono ?_
  rintro e wx ⟨⟨r, rfl, hr⟩, q0, rfl⟩
  have HNP := Lib.hid hr
  have HB1' : Hid (Below w.heap.size w (w1.drewN q0)) := Lib.hid (below_drewN HB1.out q0)
  clear hr
  go_wp2_with fail
  go_loopw [3, 4] (fun s3 s4 wr => ∃ (a : Nat) (z : Int), s4 = .int .i64 z ∧ a ≤ n ∧ Hid (NextP n V a z) ∧ wr.ownsRow w.heap.size 3 1 s3 (placesTo V a).length (vals (placesTo V a)) ∧ Hid (s3 ≠ .slice none 0 0) ∧ Below w.heap.size w wr) (fun _ s4 _ => meas n s4)
  case atStart => exact ⟨0, r, rfl, Nat.zero_le _, HNP, HO.out, Lib.hid (by simp), HB1'.out⟩
  case round =>
    obtain ⟨a, z, rfl, han, HZ, hown, HNN, hb⟩ := hrel
    rcases HZ.out with ⟨hz, hno⟩ | ⟨j, hj, haj, hjn, hbit, hno⟩
    · subst hz
      have he := placesTo_end han hno
      have HE : Hid (wr.ownsRow w.heap.size 3 1 u3 (placesTo V n).length (vals (placesTo V n))) := Lib.hid (by rw [he]; exact hown)
      have HB := Lib.hid hb
      clear hno he hown hb HZ
      go_wp2
      go_ret
      exact ⟨⟨_, rfl, HE.out, HNN.out⟩, HB.out⟩
    · subst hj
      have hst := Lib.hid (placesTo_step haj hbit hno)
      have hl := placesTo_len V a
      have HB := Lib.hid hb
      have hz := hb.size
      clear hno HZ hbit hb
      generalize placesTo V a = xs at hst hl hown
      go_wp2_with (at_builtin; refine wpList_append_own _ rfl (.tmp 16) (.tmp 18) 30 rfl w.heap.size 3 i0 (.int .i64 0) 1 8 Tryd.underlying30 hi hz0 hz1 hz2 rfl (by decide) _ _ _ rfl (hown.alloc _) ⟨wr.heap.size, 0, none⟩ 1 1 [.int .i64 (j : Nat)] rfl rfl ?c1 ?c2 ?c3 ?c4 ?c5 ?_)
      case c1 =>
        intro t u hu
        match t, hu with
        | 0, hu => simp at hu; subst hu; simp [Addr.add]
      case c2 => intro u hu; simp at hu; subst hu; rfl
      case c3 => simp only [maxLen]; omega
      case c4 => omega
      case c5 => simp; omega
      · intro v' w2 hown' hgrow hnil
        have hB2 := (HB.out.alloc hz (.cells #[.int .i64 (j : Nat)] 3)).grown hgrow (by simp; omega) (own_base hown)
        have HB2 := Lib.hid hB2
        have HO2 : Hid (w2.ownsRow w.heap.size 3 1 v' (placesTo V (j + 1)).length (vals (placesTo V (j + 1)))) := Lib.hid (by
          rw [hst.out, List.length_append, show vals (xs ++ [j]) = vals xs ++ [.int .i64 (j : Nat)] by simp [vals]]
          exact hown')
        have HN2 := Lib.hid hnil
        clear hown hown' hgrow hnil hst hB2
        go_wp2_with fail
        refine (HN1.out j _ HB2.out).mono ?_
        rintro e wy ⟨⟨r', rfl, hr'⟩, q1, rfl⟩
        have HB3 : Hid (Below w.heap.size w (w2.drewN q1)) := Lib.hid (below_drewN HB2.out q1)
        have HR' := Lib.hid hr'
        have hm : meas n (.int .i64 r') < meas n (.int .i64 (j : Nat)) := by
          rw [meas_nat]
          rcases hr' with ⟨h1, _⟩ | ⟨j', h1, h2, h3, _⟩
          · rw [h1, meas_neg]; omega
          · rw [h1, meas_nat]; omega
        have HM := Lib.hid hm
        clear hr' hm
        go_wp2_with fail
        go_roundw
        case rel => exact ⟨j + 1, r', rfl, by omega, HR', HO2.out, HN2, HB3.out⟩
        case measure => exact HM.out
end Go.Proofs.YtakgepdlninnhaaDoor.Bits
