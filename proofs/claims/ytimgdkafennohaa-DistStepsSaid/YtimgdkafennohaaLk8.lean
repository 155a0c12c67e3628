/-
  Links: of. Not a statement of the seat.
-/
import Derived.Test.YtimgdkafennohaaLk7
import Derived.Test.YtimgdkafennohaaHead6
namespace Go.Proofs.Ytimgdkafennohaa.Ln
open Go.ChangeShapes Go.WideShapes Go.ChangeAt Go.RowKit Base Ro F
def keepK (mask : Int) (x : Lk) : Bool := !(decide (bits .and .i64 x.ks mask = 0))
def ofK (ks : List Lk) (mask : Int) : List Int := (ks.filter (keepK mask)).map (·.nd)
set_option maxHeartbeats 2000000 in
set_option maxRecDepth 100000 in
theorem of_any {p : Option Addr} {n cap : Nat} {ks : List Lk} (mask : Int) (w : World) (hn : n = ks.length) (hl : LksAt w p ks) (hn5 : n ≤ 5000) (hb : ∀ k, k < ks.length → (-32768 ≤ (ks.getD k Lk.zero).nd ∧ (ks.getD k Lk.zero).nd ≤ 32767) ∧ (-32768 ≤ (ks.getD k Lk.zero).ks ∧ (ks.getD k Lk.zero).ks ≤ 32767)) :
    Calls Try.prog 16 #[.slice p n cap, .int .i64 mask] w fun e w' => (∃ v, e = .returned v ∧ Lst.OwnI w.heap.size w' v (ofK ks mask)) ∧ Below w.heap.size w w' := by
  obtain ⟨i0, hi, hz0, hz1, hz2⟩ := info_parts Lst.int_info
  have HL : Hid (∀ k, k < n → ∃ g o, p = some ⟨g, o, none⟩ ∧ g < w.heap.size ∧ w.cell? ⟨g, o + k * 6, none⟩ = some (.int .i16 (ks.getD k Lk.zero).nd) ∧ w.cell? ⟨g, o + k * 6 + 1, none⟩ = some (.int .i16 (ks.getD k Lk.zero).ks) ∧ w.cell? ⟨g, o + k * 6 + 2, none⟩ = some (.int .i32 (ks.getD k Lk.zero).c0) ∧ w.cell? ⟨g, o + k * 6 + 3, none⟩ = some (.int .i32 (ks.getD k Lk.zero).c1) ∧ w.cell? ⟨g, o + k * 6 + 4, none⟩ = some (.int .i32 (ks.getD k Lk.zero).c2) ∧ w.cell? ⟨g, o + k * 6 + 5, none⟩ = some (.int .i32 (ks.getD k Lk.zero).c3)) := Lib.hid (by rw [hn]; exact hl)
  have HB : Hid (∀ k, k < n → IntKind.i64.wrap (ks.getD k Lk.zero).nd = (ks.getD k Lk.zero).nd ∧ IntKind.i64.wrap (ks.getD k Lk.zero).ks = (ks.getD k Lk.zero).ks) := Lib.hid fun k hk => ⟨i64_of16 (hb k (by omega)).1, i64_of16 (hb k (by omega)).2⟩
  have HK : Hid (∀ k, k < n → ofK (ks.take (k + 1)) mask = ofK (ks.take k) mask ++ (if bits .and .i64 (ks.getD k Lk.zero).ks mask = 0 then [] else [(ks.getD k Lk.zero).nd])) := Lib.hid fun k hk => by
    have hk2 : k < ks.length := by omega
    rw [List.take_add_one, List.getElem?_eq_getElem hk2]
    unfold ofK
    rw [List.filter_append, List.map_append]
    congr 1
    simp only [Option.toList_some, List.getD_eq_getElem?_getD, List.getElem?_eq_getElem hk2, Option.getD_some, List.filter_cons, List.filter_nil, keepK]
    by_cases hq : bits .and .i64 (ks[k]).ks mask = 0 <;> simp [hq]
  have HEN : Hid (ks.take n = ks) := Lib.hid (by rw [hn, List.take_length])
  have HLN : Hid (∀ k, (ofK (ks.take k) mask).length ≤ n) := Lib.hid fun k => by
    unfold ofK
    rw [List.length_map]
    exact Nat.le_trans (List.length_filter_le _ _) (by rw [List.length_take]; omega)
  clear hl hb hn
  go_enter Try.func16, Try.ntmps16
  go_wp2_with (at_make; refine wpList_make_own _ rfl _ _ _ rfl w.heap.size 3 i0 (.int .i64 0) 1 Try.underlying26 hi hz0 hz1 .i64 .i64 _ n rfl rfl (by omega) (by rw [hz2]; omega) (by simp only [maxLen]; omega) (Nat.le_refl _) ?_; intro w1 hown hgr)
  have HW : Hid (Lst.OwnI w.heap.size w1 (.slice (some ⟨w.heap.size, 0, none⟩) 0 n) (ofK (ks.take 0) mask) ∧ Below w.heap.size w w1) := Lib.hid ⟨hown, (Below.refl w.heap.size w).grown hgr (Nat.le_refl _) (by intro k hk; cases hk)⟩
  clear hown hgr
  go_loopw [5, 13] (fun s5 s13 wr => ∃ (j : Nat) (v : Value), s13 = .int .i64 (j : Int) ∧ v = s5 ∧ j ≤ n ∧ Hid (Lst.OwnI w.heap.size wr v (ofK (ks.take j) mask) ∧ Below w.heap.size w wr)) (fun _ s13 _ => n - (intOf s13).toNat)
  case atStart => exact ⟨0, _, rfl, rfl, Nat.zero_le _, HW⟩
  case round =>
    obtain ⟨j, v, rfl, rfl, hj, HO⟩ := hrel
    by_cases hlt : j < n
    · obtain ⟨g', o', rfl, hg', c0, c1, c2, c3, c4, c5⟩ := HL.out j hlt
      obtain ⟨hw1, hw2⟩ := HB.out j hlt
      have HST := Lib.hid (HK.out j hlt)
      have d0 := (HO.out.2.cell (p := ⟨g', _, none⟩) hg').trans c0
      have d1 := (HO.out.2.cell (p := ⟨g', _, none⟩) hg').trans c1
      have d2 := (HO.out.2.cell (p := ⟨g', _, none⟩) hg').trans c2
      have d3 := (HO.out.2.cell (p := ⟨g', _, none⟩) hg').trans c3
      have d4 := (HO.out.2.cell (p := ⟨g', _, none⟩) hg').trans c4
      have d5 := (HO.out.2.cell (p := ⟨g', _, none⟩) hg').trans c5
      have hzl := HLN.out j
      clear c0 c1 c2 c3 c4 c5 hg'
      generalize ks.getD j Lk.zero = x at hw1 hw2 HST d0 d1 d2 d3 d4 d5
      obtain ⟨nd, s, a0, a1, a2, a3⟩ := x
      dsimp only at hw1 hw2 HST d0 d1 d2 d3 d4 d5
      generalize ofK (ks.take j) mask = zs at HO HST hzl
      have hbz := HO.out.2.size
      by_cases hq : bits .and .i64 s mask = 0
      · rw [if_pos hq, List.append_nil] at HST
        go_wp2_with fail
        go_roundw
        case rel => exact ⟨j + 1, _, by go_num, rfl, by omega, Lib.hid (by rw [HST.out]; exact ⟨HO.out.1.below (by go_grown), HO.out.2.trans (by go_grown)⟩)⟩
        case measure => simp [intOf]; omega
      · rw [if_neg hq] at HST
        go_wp2_with (at_builtin; refine Lst.append_int rfl (.tmp 23) (.tmp 27) rfl (w0 := w) (HO.out.2.trans (by go_grown)) (HO.out.1.below (by go_grown)) rfl (by rw [World.size_alloc]; rfl) (by omega) ?_; intro v2 w3 ho hb3; have HO2 : Hid (Lst.OwnI w.heap.size w3 v2 (ofK (ks.take (j + 1)) mask) ∧ Below w.heap.size w w3) := Lib.hid (by rw [HST.out]; exact ⟨ho, hb3⟩); clear ho hb3 HO HST)
        go_roundw
        case rel => exact ⟨j + 1, v2, by go_num, rfl, by omega, HO2⟩
        case measure => simp [intOf]; omega
    · have e : j = n := by omega
      subst e
      clear HL HB HK
      go_wp2
      go_ret
      exact ⟨⟨_, rfl, by have h := HO.out.1; rw [HEN.out] at h; exact h⟩, HO.out.2⟩
end Go.Proofs.Ytimgdkafennohaa.Ln
