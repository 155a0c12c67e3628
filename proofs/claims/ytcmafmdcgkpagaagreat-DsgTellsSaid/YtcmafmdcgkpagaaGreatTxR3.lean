/-
  Contract of the document's Right of transactions. Not a statement of the seat.
-/
import Derived.Test.YtcmafmdcgkpagaaGreatHead10
import Derived.Test.YtcmafmdcgkpagaaGreatOp2
import Derived.Test.YtcmafmdcgkpagaaGreatHead5
import Derived.Lib.QuietBelow
namespace Go.Proofs.YtcmafmdcgkpagaaGreat.Tx
open Go.ChangeShapes Go.WideShapes Go.ChangeAt Go.RowKit Base F Lst Nu Go.Lib
/-- On the way: the transaction's box. -/
def RR (w wr : World) (id : Int) (d : Bool) (s : Value) : Prop := wr.heap[w.heap.size]? = some (boxT id d s) ∧ Aft w wr
theorem RR.aft {w wr W : World} {id : Int} {d : Bool} {s : Value} (h : RR w wr id d s) (ha : Aft wr W) : RR w W id d s := ⟨(ha.block _ (heap_lt h.1)).trans h.1, h.2.trans ha⟩
set_option maxRecDepth 100000 in
set_option maxHeartbeats 4000000 in
theorem rright_any {base : Nat} {p : Option Addr} {c : Nat} {l : List Opr} (id : Int) (d : Bool) (w : World) (h : Oprs base w (.slice p l.length c) l) (hcap : l.length ≤ c) (hl : l.length ≤ 100000) : Calls Tryz.prog 24 #[.agg #[.int .i64 id, .bool d, .slice p l.length c]] w (IntNew (rightT id l) w) := by
  have HO := Lib.hid h
  obtain ⟨p', c', hv, _, hc⟩ := h.open_
  injection hv with e1 e2 e3
  subst e1 e3
  have HC := Lib.hid hc
  have HE : Hid (∀ n w', n = rightT id l → Aft w w' → IntNew (rightT id l) w (.returned (.int .i64 n)) w') := Lib.hid fun n w' h1 h2 => ⟨by rw [h1], h2⟩
  have HID := Lib.hid (tid_any id)
  clear h hc e2
  by_cases h0 : id < 1 ∨ 1048575 < id
  · have HR : Hid (1 = rightT id l) := Lib.hid (by unfold rightT; rw [if_pos h0])
    have hi : idB id = false := decide_eq_false (by omega)
    rw [hi] at HID
    generalize IntNew (rightT id l) w = Post at HE ⊢
    clear h0 hi
    go_enter Tryz.func24, Tryz.ntmps24
    go_wp2_with (go_at_call 43; refine (HID.out _).mono ?_; rintro e w' ⟨rfl, rfl⟩)
    exact HE.out _ _ HR.out (Aft.one _)
  · have hi : idB id = true := decide_eq_true (by omega)
    rw [hi] at HID
    by_cases h3 : 4095 < l.length
    · have HR : Hid (9 = rightT id l) := Lib.hid (by unfold rightT; rw [if_neg h0, if_pos h3])
      generalize IntNew (rightT id l) w = Post at HE ⊢
      have h3' : (4095 : Int) < (l.length : Int) := by omega
      clear h0 hi
      go_enter Tryz.func24, Tryz.ntmps24
      go_wp2_with (go_at_call 43; refine (HID.out _).mono ?_; rintro e w' ⟨rfl, rfl⟩)
      exact HE.out _ _ HR.out (Aft.one _)
    · have HR : Hid (rtGo id [] l = rightT id l) := Lib.hid (by unfold rightT; rw [if_neg h0, if_neg h3])
      generalize IntNew (rightT id l) w = Post at HE ⊢
      have h3' : ¬ (4095 : Int) < (l.length : Int) := by omega
      clear h0 h3 hi
      go_enter Tryz.func24, Tryz.ntmps24
      go_wp2_with (go_at_call 43; refine (HID.out _).mono ?_; rintro e w' ⟨rfl, rfl⟩)
      go_loopw [16] (fun s16 wr => ∃ k : Nat, s16 = .int .i64 k ∧ k ≤ l.length ∧ Hid (RR w wr id d (.slice p l.length c)) ∧ Hid (rtGo id (l.take k) (l.drop k) = rightT id l)) (fun s16 _ => l.length - (intOf s16).toNat)
      case atStart => exact ⟨0, rfl, Nat.zero_le _, Lib.hid ⟨heap_alloc_at _ _ _ rfl, Aft.one _⟩, Lib.hid HR.out⟩
      case round =>
        obtain ⟨k, rfl, hk, HS, HG⟩ := hrel
        by_cases hlt : k < l.length
        · obtain ⟨g', o', rfl, _, hg', c0, c1, c2, c3⟩ := HC.out k hlt
          have d0 := HS.out.2.cell hg' c0
          have d1 := HS.out.2.cell hg' c1
          have d2 := HS.out.2.cell hg' c2
          have d3 := HS.out.2.cell hg' c3
          have HRT := Lib.hid (rt_at id l k hlt)
          clear c0 c1 c2 c3
          generalize l.getD k Opr.zero = x at d0 d1 d2 d3 HRT
          have HOR : Hid (∀ W, Calls Tryz.prog 44 #[.agg #[.bool x.rd, .int .i64 x.k, .int .i64 x.t, .int .i64 x.n]] W fun e w' => e = .returned (.bool (Op.rightO x)) ∧ Aft W w') := Lib.hid fun W => Op.rightR_any x W
          have HS2 : Hid (∀ W, Aft (wr.alloc (boxO x)) W → RR w W id d (.slice (some ⟨g', o', none⟩) l.length c) ∧ W.heap[wr.heap.size]? = some (boxO x)) := Lib.hid fun W hW => ⟨HS.out.aft ((Aft.one _).trans hW), (hW.block _ (by simp)).trans (heap_alloc_at _ _ _ rfl)⟩
          cases hr : Op.rightO x with
          | false =>
            have HV : Hid (1 = rightT id l) := Lib.hid (by rw [← HG.out, HRT.out, if_pos hr])
            rw [hr] at HOR
            clear HG HRT hr HS
            go_wp2_with (go_at_call 44; refine (HOR.out _).mono ?_; rintro e w2 ⟨rfl, h2⟩; have H2 := Lib.hid (HS2.out _ h2).1.2; clear h2)
            exact HE.out _ _ HV.out H2.out
          | true =>
            have hbd := right_bd hr
            rw [hr] at HOR
            have HWR : Hid (∀ (W : World) (q : Nat), Aft w W → Calls Tryz.prog 33 #[.slice (some ⟨g', o', none⟩) k q, .int .i64 x.k] W (IntNew (wrN (l.take k) x.k : Nat) W)) := Lib.hid fun W q hW => by
              have hlen : (l.take k).length = k := by rw [List.length_take]; omega
              have := rwrites_any x.k W (oprs_take (c' := q) (HO.out.below hW) hlt) (by omega)
              exact this
            cases hrd : x.rd with
            | false =>
              have HV : Hid (rtGo id (l.take (k + 1)) (l.drop (k + 1)) = rightT id l) := Lib.hid (by rw [← HG.out, HRT.out, if_neg (by rw [hr]; simp), if_neg (fun h => by rw [hrd] at h; cases h.1)])
              obtain ⟨xr, xk, xt, xn⟩ := x
              have hxr : xr = false := hrd
              subst hxr
              clear HG HRT hr HS hbd hrd
              go_wp2_with fail
              refine (HOR.out _).mono ?_
              rintro e w2 ⟨rfl, h2⟩
              have H2 := Lib.hid (HS2.out _ h2)
              clear h2
              obtain ⟨_, ⟨y0, y1, y2, y3⟩, _⟩ := cellsO H2.out.2
              obtain ⟨_, ⟨v0, v1, v2⟩, _⟩ := cellsT H2.out.1.1
              have R1 : Hid (∀ d os, Calls Tryz.prog 33 #[.slice (some ⟨g', o', none⟩) k c, .int .i64 xk] (Go.Sort.grow (redrawn w2 d) os) fun e w'' => e = .returned (.int .i64 ((wrN (l.take k) xk : Nat) : Int)) ∧ ∃ p : Regrown, w'' = Go.Sort.grow (redrawn w2 p.d) p.os) := Lib.hid fun d os => Calls.regrown_of ((HWR.out _ c (H2.out.1.2.trans (below_regrown w2 d os))).mono fun e w' h => h)
              have k0 := cell_regrown y0
              have k1 := cell_regrown y1
              have k2 := cell_regrown y2
              have k3 := cell_regrown y3
              have j0 := cell_regrown v0
              have j2 := cell_regrown v2
              clear y0 y1 y2 y3 v0 v1 v2
              go_wp2_with fail
              refine wp_region_quiet_below (by kernel_rfl) (by kernel_rfl) ?_
              repeat (go_big_quiet_step (with_reducible exact R1.out _ _))
              refine wpQuiet_nil ?_
              intro _ hw'
              obtain ⟨⟨dq, osq⟩, hw''⟩ := hw'
              subst hw''
              have H3 := Lib.hid (H2.out.1.aft (below_regrown w2 dq osq))
              clear k0 k1 k2 k3 j0 j2 R1 H2
              go_wp2
              go_roundw
              case rel => exact ⟨k + 1, by go_num, by omega, H3, HV⟩
              case measure => simp [intOf]; omega
            | true =>
              obtain ⟨xr, xk, xt, xn⟩ := x
              have hxr : xr = true := hrd
              subst hxr
              dsimp only at hbd
              have hcap2 : k ≤ c := by omega
              have hcap3 : (k : Int) ≤ (c : Int) := by omega
              by_cases ht : xt = id
              · have ht2 : (xt == id) = true := by rw [beq_iff_eq]; exact ht
                by_cases hw : ((wrN (l.take k) xk : Nat) : Int) < xn
                · have HV : Hid (6 = rightT id l) := Lib.hid (by rw [← HG.out, HRT.out, if_neg (by rw [hr]; simp), if_pos ⟨rfl, ht, hw⟩])
                  have hw2 : decide (((wrN (l.take k) xk : Nat) : Int) < xn) = true := decide_eq_true hw
                  subst ht
                  clear HG HRT hr HS hbd hrd hw
                  go_wp2_with fail
                  refine (HOR.out _).mono ?_
                  rintro e w2 ⟨rfl, h2⟩
                  have H2 := Lib.hid (HS2.out _ h2)
                  clear h2
                  obtain ⟨_, ⟨y0, y1, y2, y3⟩, _⟩ := cellsO H2.out.2
                  obtain ⟨_, ⟨v0, v1, v2⟩, _⟩ := cellsT H2.out.1.1
                  have R1 : Hid (∀ d os, Calls Tryz.prog 33 #[.slice (some ⟨g', o', none⟩) k c, .int .i64 xk] (Go.Sort.grow (redrawn w2 d) os) fun e w'' => e = .returned (.int .i64 ((wrN (l.take k) xk : Nat) : Int)) ∧ ∃ p : Regrown, w'' = Go.Sort.grow (redrawn w2 p.d) p.os) := Lib.hid fun d os => Calls.regrown_of ((HWR.out _ c (H2.out.1.2.trans (below_regrown w2 d os))).mono fun e w' h => h)
                  have k0 := cell_regrown y0
                  have k1 := cell_regrown y1
                  have k2 := cell_regrown y2
                  have k3 := cell_regrown y3
                  have j0 := cell_regrown v0
                  have j2 := cell_regrown v2
                  clear y0 y1 y2 y3 v0 v1 v2
                  go_wp2_with fail
                  refine wp_region_quiet_below (by kernel_rfl) (by kernel_rfl) ?_
                  repeat (go_big_quiet_step (with_reducible exact R1.out _ _))
                  refine wpQuiet_nil ?_
                  intro _ hw'
                  obtain ⟨⟨dq, osq⟩, hw''⟩ := hw'
                  subst hw''
                  have H3 := Lib.hid (H2.out.1.aft (below_regrown w2 dq osq))
                  clear k0 k1 k2 k3 j0 j2 R1 H2
                  go_wp2
                  exact HE.out _ _ HV.out H3.out.2
                · have HV : Hid (rtGo id (l.take (k + 1)) (l.drop (k + 1)) = rightT id l) := Lib.hid (by rw [← HG.out, HRT.out, if_neg (by rw [hr]; simp), if_neg (fun h => hw h.2.2)])
                  have hw2 : decide (((wrN (l.take k) xk : Nat) : Int) < xn) = false := decide_eq_false hw
                  subst ht
                  clear HG HRT hr HS hbd hrd hw
                  go_wp2_with fail
                  refine (HOR.out _).mono ?_
                  rintro e w2 ⟨rfl, h2⟩
                  have H2 := Lib.hid (HS2.out _ h2)
                  clear h2
                  obtain ⟨_, ⟨y0, y1, y2, y3⟩, _⟩ := cellsO H2.out.2
                  obtain ⟨_, ⟨v0, v1, v2⟩, _⟩ := cellsT H2.out.1.1
                  have R1 : Hid (∀ d os, Calls Tryz.prog 33 #[.slice (some ⟨g', o', none⟩) k c, .int .i64 xk] (Go.Sort.grow (redrawn w2 d) os) fun e w'' => e = .returned (.int .i64 ((wrN (l.take k) xk : Nat) : Int)) ∧ ∃ p : Regrown, w'' = Go.Sort.grow (redrawn w2 p.d) p.os) := Lib.hid fun d os => Calls.regrown_of ((HWR.out _ c (H2.out.1.2.trans (below_regrown w2 d os))).mono fun e w' h => h)
                  have k0 := cell_regrown y0
                  have k1 := cell_regrown y1
                  have k2 := cell_regrown y2
                  have k3 := cell_regrown y3
                  have j0 := cell_regrown v0
                  have j2 := cell_regrown v2
                  clear y0 y1 y2 y3 v0 v1 v2
                  go_wp2_with fail
                  refine wp_region_quiet_below (by kernel_rfl) (by kernel_rfl) ?_
                  repeat (go_big_quiet_step (with_reducible exact R1.out _ _))
                  refine wpQuiet_nil ?_
                  intro _ hw'
                  obtain ⟨⟨dq, osq⟩, hw''⟩ := hw'
                  subst hw''
                  have H3 := Lib.hid (H2.out.1.aft (below_regrown w2 dq osq))
                  clear k0 k1 k2 k3 j0 j2 R1 H2
                  go_wp2
                  go_roundw
                  case rel => exact ⟨k + 1, by go_num, by omega, H3, HV⟩
                  case measure => simp [intOf]; omega
              · have HV : Hid (rtGo id (l.take (k + 1)) (l.drop (k + 1)) = rightT id l) := Lib.hid (by rw [← HG.out, HRT.out, if_neg (by rw [hr]; simp), if_neg (fun h => ht h.2.1)])
                have ht2 : (xt == id) = false := by rw [beq_eq_false_iff_ne]; exact ht
                clear HG HRT hr HS hbd hrd ht
                go_wp2_with fail
                refine (HOR.out _).mono ?_
                rintro e w2 ⟨rfl, h2⟩
                have H2 := Lib.hid (HS2.out _ h2)
                clear h2
                obtain ⟨_, ⟨y0, y1, y2, y3⟩, _⟩ := cellsO H2.out.2
                obtain ⟨_, ⟨v0, v1, v2⟩, _⟩ := cellsT H2.out.1.1
                have R1 : Hid (∀ d os, Calls Tryz.prog 33 #[.slice (some ⟨g', o', none⟩) k c, .int .i64 xk] (Go.Sort.grow (redrawn w2 d) os) fun e w'' => e = .returned (.int .i64 ((wrN (l.take k) xk : Nat) : Int)) ∧ ∃ p : Regrown, w'' = Go.Sort.grow (redrawn w2 p.d) p.os) := Lib.hid fun d os => Calls.regrown_of ((HWR.out _ c (H2.out.1.2.trans (below_regrown w2 d os))).mono fun e w' h => h)
                have k0 := cell_regrown y0
                have k1 := cell_regrown y1
                have k2 := cell_regrown y2
                have k3 := cell_regrown y3
                have j0 := cell_regrown v0
                have j2 := cell_regrown v2
                clear y0 y1 y2 y3 v0 v1 v2
                go_wp2_with fail
                refine wp_region_quiet_below (by kernel_rfl) (by kernel_rfl) ?_
                repeat (go_big_quiet_step (with_reducible exact R1.out _ _))
                refine wpQuiet_nil ?_
                intro _ hw'
                obtain ⟨⟨dq, osq⟩, hw''⟩ := hw'
                subst hw''
                have H3 := Lib.hid (H2.out.1.aft (below_regrown w2 dq osq))
                clear k0 k1 k2 k3 j0 j2 R1 H2
                go_wp2
                go_roundw
                case rel => exact ⟨k + 1, by go_num, by omega, H3, HV⟩
                case measure => simp [intOf]; omega
        · have HV : Hid (0 = rightT id l) := Lib.hid (by rw [← HG.out, rt_end id l k (by omega)])
          have HA2 := Lib.hid HS.out.2
          clear HG HS
          go_wp2
          exact HE.out _ _ HV.out HA2.out
end Go.Proofs.YtcmafmdcgkpagaaGreat.Tx
