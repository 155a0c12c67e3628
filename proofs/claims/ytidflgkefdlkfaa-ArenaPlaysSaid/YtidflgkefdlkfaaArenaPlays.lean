/-
  Proved: whatever room is asked for, and whatever deeds are handed in, ArenaPlays returns true, and the deeds read as they did. No condition.
-/
import Derived.Test.YtidflgkefdlkfaaArSt
import Derived.Deep.QuietTactic
import Derived.BigQuiet
namespace Go.Proofs.Ytidflgkefdlkfaa.arenaPlays
open Go.ChangeShapes Go.WideShapes Go.ChangeAt Go.RowKit Base F
theorem drewN_ps {w0 w : World} {pv v : Value} {o : Option Nat} {room : Nat} {zs zq : List Cel} {bs : List (Nat × Obj)} (h : PS w0 w pv o room zs v zq bs) (n : Nat) : PS w0 (w.drewN n) pv o room zs v zq bs := h.below (below_drewN (Below.refl _ _) n)
theorem ne_cel0 (w : World) : (binOp .neq 28 (.agg #[.int .i64 0, .int .i64 0, .int .i64 0, .int .i64 0, .int .i64 0, .int .i64 0]) (.agg #[.int .i64 0, .int .i64 0, .int .i64 0, .int .i64 0, .int .i64 0, .int .i64 0])).run Try.prog w = .ok (.bool false) w := ne_cel Cel.zero Cel.zero w
theorem arget_none {pv : Value} {o : Option Nat} {room : Nat} {zs : List Cel} (i : Int) (w : World) (h : ArV w pv o room zs) (hi : i < 1 ∨ (zs.length : Int) < i) : Calls Try.prog 13 #[pv, .int .i64 i] w (fun e w' => e = .returned (.tuple #[.agg #[.int .i64 0, .int .i64 0, .int .i64 0, .int .i64 0, .int .i64 0, .int .i64 0], .bool false]) ∧ Below w.heap.size w w') := arget_no i w h hi
set_option maxHeartbeats 40000000 in
set_option maxRecDepth 100000 in
theorem walk (room : Int) (v : Value) (l : List Dd5) (w : World) (hl : Dd5s 0 w v l) (hok : ∀ x ∈ l, x.ok) :
    Calls Try.prog 3 #[.int .i64 room, v] w fun e w' => e = .returned (.bool true) ∧ Below w.heap.size w w' := by
  have HV := Lib.hid hl
  obtain ⟨p, cp, rfl, hl1, hc⟩ := hl.open_
  clear hl
  by_cases h1 : 100 < l.length
  · clear hok hc
    go_enter Try.func3, Try.ntmps3
    go_wp2_with fail
    refine (arnew_any room w).mono ?_
    rintro e w1 ⟨rfl, hA, hb⟩
    have I := Lib.hid hb
    clear hA hb
    go_wp2_with fail
    refine (arlives _).mono ?_
    rintro e w2 ⟨rfl, hb⟩
    have I2 := Lib.hid (I.out.trans (hb.mono I.out.size))
    clear I hb
    go_wp2
    go_ret
    exact ⟨rfl, I2.out⟩
  have h2 : l.length ≤ 100 := by omega
  clear h1
  have HC := Lib.hid hc
  have HOK : Hid (∀ k, k < l.length → (l.getD k Dd5.zero).ok) := Lib.hid fun k hk => hok _ (by rw [List.getD_eq_getElem?_getD, List.getElem?_eq_getElem hk]; exact List.getElem_mem hk)
  have HR := Lib.hid (roomOf_le room)
  clear hc hok
  have HRR := Lib.hid (fun w => room_ref room w)
  go_enter Try.func3, Try.ntmps3
  go_wp2_with fail
  refine (arnew_any room w).mono ?_
  rintro e w1 ⟨rfl, hA, hb⟩
  have P0 : Hid (PS w w1 (.pointer (some ⟨w.heap.size, 0, none⟩)) none (roomOf room) [] (.slice none 0 0) [] []) := Lib.hid ⟨AI.new hA hb (Nat.le_refl _), QS.nil _ _ _, fun p hp => by cases hp⟩
  have HPut : Hid (∀ (o : Option Nat) (zs : List Cel) (u : Value) (c : Cel) (wx : World), QS wx u zs (.pointer (some ⟨w.heap.size, 0, none⟩)) o → ArV wx (.pointer (some ⟨w.heap.size, 0, none⟩)) o (roomOf room) zs → Calls Try.prog 10 #[u, .int .i64 room, .agg #[.int .i64 c.l, .int .i64 c.r, .int .i64 c.k, .int .i64 c.v, .int .i64 c.s, .int .i64 c.h]] wx (RefP (.pointer (some ⟨w.heap.size, 0, none⟩)) o (roomOf room) zs c wx)) := Lib.hid fun o zs u c wx h1 h2 => put_ref_v c wx h1 h2
  clear hA hb
  generalize roomOf room = R at HR HRR P0 HPut
  go_wp2_with fail
  go_loopw [6, 36] (fun s6 s36 wr => ∃ (k : Nat) (o : Option Nat) (zs : List Cel) (u : Value), s36 = .int .i64 (k : Int) ∧ k ≤ l.length ∧ u = s6 ∧ Hid (PS w wr (.pointer (some ⟨w.heap.size, 0, none⟩)) o R zs u zs [])) (fun _ s36 _ => l.length - (intOf s36).toNat)
  case atStart => exact ⟨0, none, [], _, rfl, Nat.zero_le _, rfl, P0⟩
  case round =>
    obtain ⟨k, o, zs, u, rfl, hk, rfl, P1⟩ := hrel
    by_cases hlt : k < l.length
    · obtain ⟨g', o', rfl, _, hg, c0, c1, c2, c3, c4, c5, c6, c7⟩ := HC.out k hlt
      have c0 := (P1.out.1.2.1.cell (p := ⟨g', _, none⟩) hg).trans c0
      have c1 := (P1.out.1.2.1.cell (p := ⟨g', _, none⟩) hg).trans c1
      have c2 := (P1.out.1.2.1.cell (p := ⟨g', _, none⟩) hg).trans c2
      have c3 := (P1.out.1.2.1.cell (p := ⟨g', _, none⟩) hg).trans c3
      have c4 := (P1.out.1.2.1.cell (p := ⟨g', _, none⟩) hg).trans c4
      have c5 := (P1.out.1.2.1.cell (p := ⟨g', _, none⟩) hg).trans c5
      have c6 := (P1.out.1.2.1.cell (p := ⟨g', _, none⟩) hg).trans c6
      have c7 := (P1.out.1.2.1.cell (p := ⟨g', _, none⟩) hg).trans c7
      have hg := Nat.lt_of_lt_of_le hg P1.out.1.2.1.size
      have hd := HOK.out k hlt
      generalize l.getD k Dd5.zero = d at c0 c1 c2 c3 c4 c5 c6 c7 hd
      have P2 := Lib.hid (P1.out.add (boxD d))
      obtain ⟨q, cq, rfl, hcq⟩ := P1.out.2.1.form
      clear P1
      have hd1 := hd.2.2.2.2.2.2.2
      by_cases k0 : d.kind = 0
      · have k0' : (d.kind == 0) = true := by rw [beq_iff_eq]; exact k0
        clear k0
        go_wp2_with fail
        refine (HPut.out _ _ _ d.c _ (P2.out.below (by first | exact Below.refl _ _ | go_grown)).2.1 (P2.out.below (by first | exact Below.refl _ _ | go_grown)).1.1).mono ?_
        rintro e w2 ⟨q2, cq2, rfl, hq, hb⟩
        have P3 := Lib.hid (((P2.out.below (by first | exact Below.refl _ _ | go_grown)).below hb).q hq)
        have H := arput_v d.c w2 P3.out.1.1 (d.c_ok hd)
        clear P2 hq hb c0 c1 c2 c3 c4 c5 c6 c7 hg hd hcq
        generalize putA R zs d.c = r at H P3 ⊢
        obtain ⟨zs2, i, y⟩ := r
        simp only at H P3 ⊢
        obtain ⟨hgd, d0, d1, d2, d3, d4, d5, d6, d7⟩ := cellsD (P3.out.2.2 (wr.heap.size, boxD d) (by simp)).1
        go_wp2_with fail
        refine H.mono ?_
        intro e w3 hs
        obtain ⟨rfl, o3, P4⟩ := P3.out.step hs
        clear hs P3 H d0 d1 d2 d3 d4 d5 d6 d7 hgd
        have hlen := P4.out.1.1.le
        have hR := HR.out
        by_cases hin1 : 1 ≤ d.n
        · by_cases hin2 : d.n ≤ (zs2.length : Int)
          · obtain ⟨hgd, d0, d1, d2, d3, d4, d5, d6, d7⟩ := cellsD (P4.out.2.2 (wr.heap.size, boxD d) (by simp)).1
            go_wp2_with fail
            obtain ⟨m, hm⟩ : ∃ m : Nat, d.n = (m : Int) + 1 := ⟨(d.n - 1).toNat, by omega⟩
            have hmz : m < zs2.length := by omega
            have hGet := Lib.hid (fun (o : Option Nat) (wx : World) (h : ArV wx (.pointer (some ⟨w.heap.size, 0, none⟩)) o R zs2) => arget_x d.n (zs2.getD m Cel.zero) true wx h (by rw [celAt_get hin1]; congr 1; omega) (by rw [decide_eq_true_eq]; omega))
            try clear hn
            refine (hGet.out _ _ (P4.out.below (by first | exact Below.refl _ _ | go_grown)).1.1).mono ?_
            rintro e w9 ⟨rfl, hb⟩
            clear hGet d0 d1 d2 d3 d4 d5 d6 d7
            have P8 := Lib.hid ((P4.out.below (by first | exact Below.refl _ _ | go_grown)).below hb)
            have P9 := Lib.hid (P8.out.add (boxC (zs2.getD m Cel.zero)))
            clear P4 hb
            obtain ⟨p5, c5, hf5, _, hcc⟩ := P8.out.2.1.cels.open_
            obtain ⟨g2, o2, hp5, _, hg2, q0, q1, q2, q3, q4, q5⟩ := hcc m hmz
            injection hf5 with e1 e2 e3
            subst e1
            subst hp5
            clear hcc e2 e3
            obtain ⟨hgd, d0, d1, d2, d3, d4, d5, d6, d7⟩ := cellsD (P8.out.2.2 (wr.heap.size, boxD d) (by simp)).1
            rw [hm] at d7
            have hxe := fun wx => ne_cel (zs2.getD m Cel.zero) (zs2.getD m Cel.zero) wx
            simp only [Cel.beq_self, Bool.not_true] at hxe
            have HQ := Lib.hid (fun n => (drewN_ps P9.out n).1.1)
            have hm1 : (1 : Int) ≤ (m : Int) + 1 := by omega
            have hm2 : (m : Int) + 1 ≤ (zs2.length : Int) := by omega
            have hm3 : (m : Int) < (zs2.length : Int) := by omega
            have hm4 : IntKind.i64.wrap ((m : Int) + 1 - 1) = (m : Int) := by rw [IntKind.wrap_i64]; omega
            have hm5 : IntKind.i64.wrap ((R : Int) - (zs2.length : Int)) = (R : Int) - (zs2.length : Int) := by have := P9.out.1.1.le; rw [IntKind.wrap_i64]; omega
            clear hm
            generalize zs2.getD m Cel.zero = x at P9 q0 q1 q2 q3 q4 q5 hxe HQ
            go_wp2_with fail
            go_quiet ((first | (go_at_call 14; exact Calls.quiet_of_same ((arlen_v (HQ.out _)).mono fun _ _ ⟨a, b⟩ => ⟨a, b.symm⟩)) | (go_at_call 15; exact Calls.quiet_of (arroom_v (HQ.out _))) | (go_at_call 16; exact Calls.quiet_of_same ((HRR.out _).mono fun _ _ ⟨a, b⟩ => ⟨a, b.symm⟩))))
            go_wp2_with fail
            go_roundw
            case rel => exact ⟨k + 1, _, zs2, _, by go_num, by omega, rfl, Lib.hid ((drewN_ps P9.out _).drop fun p hp => by cases hp)⟩
            case measure => simp [intOf]; omega
          · have hm1 : (1 : Int) ≤ d.n := by omega
            have hm2 : decide (d.n ≤ (zs2.length : Int)) = false := by rw [decide_eq_false_iff_not]; omega
            have hGet := Lib.hid (fun (o : Option Nat) (wx : World) (h : ArV wx (.pointer (some ⟨w.heap.size, 0, none⟩)) o R zs2) => arget_none d.n wx h (by omega))
            try clear hn
            obtain ⟨hgd, d0, d1, d2, d3, d4, d5, d6, d7⟩ := cellsD (P4.out.2.2 (wr.heap.size, boxD d) (by simp)).1
            go_wp2_with fail
            refine (hGet.out _ _ (P4.out.below (by first | exact Below.refl _ _ | go_grown)).1.1).mono ?_
            rintro e w9 ⟨rfl, hb⟩
            clear hGet d0 d1 d2 d3 d4 d5 d6 d7
            have P8 := Lib.hid ((P4.out.below (by first | exact Below.refl _ _ | go_grown)).below hb)
            have P9 := Lib.hid (P8.out.add (boxC Cel.zero))
            clear P4 hb
            obtain ⟨hgd, d0, d1, d2, d3, d4, d5, d6, d7⟩ := cellsD (P8.out.2.2 (wr.heap.size, boxD d) (by simp)).1
            have hxe := fun wx => ne_cel0 wx
            have HQ := Lib.hid (fun n => (drewN_ps P9.out n).1.1)
            have hm5 : IntKind.i64.wrap ((R : Int) - (zs2.length : Int)) = (R : Int) - (zs2.length : Int) := by have := P9.out.1.1.le; rw [IntKind.wrap_i64]; omega
            go_wp2_with fail
            go_quiet ((first | (go_at_call 14; exact Calls.quiet_of_same ((arlen_v (HQ.out _)).mono fun _ _ ⟨a, b⟩ => ⟨a, b.symm⟩)) | (go_at_call 15; exact Calls.quiet_of (arroom_v (HQ.out _))) | (go_at_call 16; exact Calls.quiet_of_same ((HRR.out _).mono fun _ _ ⟨a, b⟩ => ⟨a, b.symm⟩))))
            go_wp2_with fail
            go_roundw
            case rel => exact ⟨k + 1, _, zs2, _, by go_num, by omega, rfl, Lib.hid ((drewN_ps P9.out _).drop fun p hp => by cases hp)⟩
            case measure => simp [intOf]; omega
        · have hm1 : decide ((1 : Int) ≤ d.n) = false := by rw [decide_eq_false_iff_not]; omega
          have hGet := Lib.hid (fun (o : Option Nat) (wx : World) (h : ArV wx (.pointer (some ⟨w.heap.size, 0, none⟩)) o R zs2) => arget_none d.n wx h (by omega))
          try clear hn
          obtain ⟨hgd, d0, d1, d2, d3, d4, d5, d6, d7⟩ := cellsD (P4.out.2.2 (wr.heap.size, boxD d) (by simp)).1
          go_wp2_with fail
          refine (hGet.out _ _ (P4.out.below (by first | exact Below.refl _ _ | go_grown)).1.1).mono ?_
          rintro e w9 ⟨rfl, hb⟩
          clear hGet d0 d1 d2 d3 d4 d5 d6 d7
          have P8 := Lib.hid ((P4.out.below (by first | exact Below.refl _ _ | go_grown)).below hb)
          have P9 := Lib.hid (P8.out.add (boxC Cel.zero))
          clear P4 hb
          obtain ⟨hgd, d0, d1, d2, d3, d4, d5, d6, d7⟩ := cellsD (P8.out.2.2 (wr.heap.size, boxD d) (by simp)).1
          have hxe := fun wx => ne_cel0 wx
          have HQ := Lib.hid (fun n => (drewN_ps P9.out n).1.1)
          have hm5 : IntKind.i64.wrap ((R : Int) - (zs2.length : Int)) = (R : Int) - (zs2.length : Int) := by have := P9.out.1.1.le; rw [IntKind.wrap_i64]; omega
          go_wp2_with fail
          go_quiet ((first | (go_at_call 14; exact Calls.quiet_of_same ((arlen_v (HQ.out _)).mono fun _ _ ⟨a, b⟩ => ⟨a, b.symm⟩)) | (go_at_call 15; exact Calls.quiet_of (arroom_v (HQ.out _))) | (go_at_call 16; exact Calls.quiet_of_same ((HRR.out _).mono fun _ _ ⟨a, b⟩ => ⟨a, b.symm⟩))))
          go_wp2_with fail
          go_roundw
          case rel => exact ⟨k + 1, _, zs2, _, by go_num, by omega, rfl, Lib.hid ((drewN_ps P9.out _).drop fun p hp => by cases hp)⟩
          case measure => simp [intOf]; omega
      · have k0' : (d.kind == 0) = false := by rw [beq_eq_false_iff_ne]; exact k0
        clear k0
        by_cases k1 : d.kind = 1
        · have k1' : (d.kind == 1) = true := by rw [beq_iff_eq]; exact k1
          clear k1
          have hzR := P2.out.1.1.le
          have hR := HR.out
          by_cases hb1 : 0 ≤ d.n
          · by_cases hb2 : d.n ≤ (zs.length : Int)
            · obtain ⟨n, hn⟩ : ∃ n : Nat, d.n = (n : Int) := ⟨d.n.toNat, by omega⟩
              have hnz : n ≤ zs.length := by omega
              have hs : ∀ wx, (Instr.sliceAt 26 (.slice q zs.length cq) none (some (.int .i64 (n : Int))) none).run Try.prog wx = .ok (.slice q n cq) wx := fun wx => by
                rw [run_sliceAt_slice _ _ _ _ _ _ (by kernel_rfl), run_slice_h wx _ _ _ _ (by kernel_rfl) _ _ (by omega) (by omega), show Try.prog.elem 26 = 28 by kernel_rfl, show (sizeOf 28).run Try.prog wx = .ok 6 wx by kernel_rfl]
                simp only [Result.andThen, sliced]
                congr 1
                cases q with
                | none => simp
                | some a => simp [Addr.add]
              have hCut := Lib.hid (fun (o : Option Nat) (wx : World) (h : ArV wx (.pointer (some ⟨w.heap.size, 0, none⟩)) o R zs) => arcut_v (n : Int) wx h)
              rw [show cutA zs (n : Int) = (zs.take n, true) by unfold cutA; rw [if_pos (by omega), Int.toNat_natCast]] at hCut
              simp only at hCut
              rw [hn] at c7
              have hdn : d.n = (n : Int) ∧ True := ⟨hn, trivial⟩
              have hdn := Lib.hid hdn
              have hnz' : (n : Int) ≤ (zs.length : Int) := by omega
              have hbox : Hid (boxD d = boxD ⟨d.kind, d.l, d.r, d.k, d.v, d.s, d.h, (n : Int)⟩) := Lib.hid (by rw [← hn])
              clear hn hb1 hb2 hd1 hd
              rw [hbox.out] at P2
              go_wp2_with fail
              refine (hCut.out _ _ (P2.out.below (by first | exact Below.refl _ _ | go_grown)).1.1).mono ?_
              intro e w3 hst
              obtain ⟨rfl, o3, P3⟩ := (P2.out.below (by first | exact Below.refl _ _ | go_grown)).step hst
              clear hst hCut P2 c0 c1 c2 c3 c4 c5 c6 c7 hg
              have P4 := Lib.hid (P3.out.q (P3.out.2.1.cut hnz))
              rw [← hbox.out] at P4
              have hn := hdn.out.1
              clear P3 hbox hdn
              have hzl : (zs.take n).length = n := by rw [List.length_take]; omega
              obtain ⟨hgd, d0, d1, d2, d3, d4, d5, d6, d7⟩ := cellsD (P4.out.2.2 (wr.heap.size, boxD d) (by simp)).1
              rw [hn] at d7
              go_wp2_with fail
              clear hnz' hnz hs d0 d1 d2 d3 d4 d5 d6 d7 hgd
              generalize zs.take n = zt at P4 hzl
              subst hzl
              have hlen := P4.out.1.1.le
              have HN := Lib.hid hn
              clear hn
              by_cases hin1 : 1 ≤ zt.length
              · obtain ⟨m, hm⟩ : ∃ m : Nat, zt.length = m + 1 := ⟨zt.length - 1, by omega⟩
                have hmz : m < zt.length := by omega
                have hGet := Lib.hid (fun (o : Option Nat) (wx : World) (h : ArV wx (.pointer (some ⟨w.heap.size, 0, none⟩)) o R zt) => arget_x (zt.length : Int) (zt.getD m Cel.zero) true wx h (by rw [celAt_get (by omega)]; congr 1; omega) (by rw [decide_eq_true_eq]; omega))
                refine (hGet.out _ _ (P4.out.below (by first | exact Below.refl _ _ | go_grown)).1.1).mono ?_
                rintro e w9 ⟨rfl, hb⟩
                clear hGet
                have P8 := Lib.hid ((P4.out.below (by first | exact Below.refl _ _ | go_grown)).below hb)
                have P9 := Lib.hid (P8.out.add (boxC (zt.getD m Cel.zero)))
                clear P4 hb
                obtain ⟨p5, c5, hf5, _, hcc⟩ := P8.out.2.1.cels.open_
                obtain ⟨g2, o2, hp5, _, hg2, q0, q1, q2, q3, q4, q5⟩ := hcc m hmz
                injection hf5 with e1 e2 e3
                subst e1
                subst hp5
                clear hcc e2 e3
                obtain ⟨hgd, d0, d1, d2, d3, d4, d5, d6, d7⟩ := cellsD (P8.out.2.2 (wr.heap.size, boxD d) (by simp)).1
                rw [HN.out] at d7
                have hxe := fun wx => ne_cel (zt.getD m Cel.zero) (zt.getD m Cel.zero) wx
                simp only [Cel.beq_self, Bool.not_true] at hxe
                have HQ := Lib.hid (fun n => (drewN_ps P9.out n).1.1)
                have hm1 : (1 : Int) ≤ (zt.length : Int) := by omega
                have hm2 : (zt.length : Int) ≤ (zt.length : Int) := by omega
                have hm3 : (m : Int) < (zt.length : Int) := by omega
                have hm4 : IntKind.i64.wrap ((zt.length : Int) - 1) = (m : Int) := by rw [IntKind.wrap_i64]; omega
                have hm5 : IntKind.i64.wrap ((R : Int) - (zt.length : Int)) = (R : Int) - (zt.length : Int) := by have := P9.out.1.1.le; rw [IntKind.wrap_i64]; omega
                clear hm
                generalize zt.getD m Cel.zero = x at P9 q0 q1 q2 q3 q4 q5 hxe HQ
                go_wp2_with fail
                go_quiet ((first | (go_at_call 14; exact Calls.quiet_of_same ((arlen_v (HQ.out _)).mono fun _ _ ⟨a, b⟩ => ⟨a, b.symm⟩)) | (go_at_call 15; exact Calls.quiet_of (arroom_v (HQ.out _))) | (go_at_call 16; exact Calls.quiet_of_same ((HRR.out _).mono fun _ _ ⟨a, b⟩ => ⟨a, b.symm⟩))))
                go_wp2_with fail
                go_roundw
                case rel => exact ⟨k + 1, _, zt, _, by go_num, by omega, rfl, Lib.hid ((drewN_ps P9.out _).drop fun p hp => by cases hp)⟩
                case measure => simp [intOf]; omega
              · have hm1 : decide ((1 : Int) ≤ (zt.length : Int)) = false := by rw [decide_eq_false_iff_not]; omega
                have hGet := Lib.hid (fun (o : Option Nat) (wx : World) (h : ArV wx (.pointer (some ⟨w.heap.size, 0, none⟩)) o R zt) => arget_none (zt.length : Int) wx h (by omega))
                refine (hGet.out _ _ (P4.out.below (by first | exact Below.refl _ _ | go_grown)).1.1).mono ?_
                rintro e w9 ⟨rfl, hb⟩
                clear hGet
                have P8 := Lib.hid ((P4.out.below (by first | exact Below.refl _ _ | go_grown)).below hb)
                have P9 := Lib.hid (P8.out.add (boxC Cel.zero))
                clear P4 hb
                obtain ⟨hgd, d0, d1, d2, d3, d4, d5, d6, d7⟩ := cellsD (P8.out.2.2 (wr.heap.size, boxD d) (by simp)).1
                rw [HN.out] at d7
                have hxe := fun wx => ne_cel0 wx
                have HQ := Lib.hid (fun n => (drewN_ps P9.out n).1.1)
                have hm5 : IntKind.i64.wrap ((R : Int) - (zt.length : Int)) = (R : Int) - (zt.length : Int) := by have := P9.out.1.1.le; rw [IntKind.wrap_i64]; omega
                go_wp2_with fail
                go_quiet ((first | (go_at_call 14; exact Calls.quiet_of_same ((arlen_v (HQ.out _)).mono fun _ _ ⟨a, b⟩ => ⟨a, b.symm⟩)) | (go_at_call 15; exact Calls.quiet_of (arroom_v (HQ.out _))) | (go_at_call 16; exact Calls.quiet_of_same ((HRR.out _).mono fun _ _ ⟨a, b⟩ => ⟨a, b.symm⟩))))
                go_wp2_with fail
                go_roundw
                case rel => exact ⟨k + 1, _, zt, _, by go_num, by omega, rfl, Lib.hid ((drewN_ps P9.out _).drop fun p hp => by cases hp)⟩
                case measure => simp [intOf]; omega
            · have hc1 : decide (d.n ≤ (zs.length : Int)) = false := by rw [decide_eq_false_iff_not]; exact hb2
              have hCut := Lib.hid (fun (o : Option Nat) (wx : World) (h : ArV wx (.pointer (some ⟨w.heap.size, 0, none⟩)) o R zs) => arcut_v d.n wx h)
              rw [show cutA zs d.n = (zs, false) by unfold cutA; rw [if_neg (by omega)]] at hCut
              simp only at hCut
              go_wp2_with fail
              refine (hCut.out _ _ (P2.out.below (by first | exact Below.refl _ _ | go_grown)).1.1).mono ?_
              intro e w3 hst
              obtain ⟨rfl, o3, P4⟩ := (P2.out.below (by first | exact Below.refl _ _ | go_grown)).step hst
              clear hst hCut P2 c0 c1 c2 c3 c4 c5 c6 c7 hg hc1
              have hm1 : (1 : Int) ≤ d.n := by omega
              have hm2 : decide (d.n ≤ (zs.length : Int)) = false := by rw [decide_eq_false_iff_not]; omega
              have hGet := Lib.hid (fun (o : Option Nat) (wx : World) (h : ArV wx (.pointer (some ⟨w.heap.size, 0, none⟩)) o R zs) => arget_none d.n wx h (by omega))
              try clear hn
              obtain ⟨hgd, d0, d1, d2, d3, d4, d5, d6, d7⟩ := cellsD (P4.out.2.2 (wr.heap.size, boxD d) (by simp)).1
              go_wp2_with fail
              refine (hGet.out _ _ (P4.out.below (by first | exact Below.refl _ _ | go_grown)).1.1).mono ?_
              rintro e w9 ⟨rfl, hb⟩
              clear hGet d0 d1 d2 d3 d4 d5 d6 d7
              have P8 := Lib.hid ((P4.out.below (by first | exact Below.refl _ _ | go_grown)).below hb)
              have P9 := Lib.hid (P8.out.add (boxC Cel.zero))
              clear P4 hb
              obtain ⟨hgd, d0, d1, d2, d3, d4, d5, d6, d7⟩ := cellsD (P8.out.2.2 (wr.heap.size, boxD d) (by simp)).1
              have hxe := fun wx => ne_cel0 wx
              have HQ := Lib.hid (fun n => (drewN_ps P9.out n).1.1)
              have hm5 : IntKind.i64.wrap ((R : Int) - (zs.length : Int)) = (R : Int) - (zs.length : Int) := by have := P9.out.1.1.le; rw [IntKind.wrap_i64]; omega
              go_wp2_with fail
              go_quiet ((first | (go_at_call 14; exact Calls.quiet_of_same ((arlen_v (HQ.out _)).mono fun _ _ ⟨a, b⟩ => ⟨a, b.symm⟩)) | (go_at_call 15; exact Calls.quiet_of (arroom_v (HQ.out _))) | (go_at_call 16; exact Calls.quiet_of_same ((HRR.out _).mono fun _ _ ⟨a, b⟩ => ⟨a, b.symm⟩))))
              go_wp2_with fail
              go_roundw
              case rel => exact ⟨k + 1, _, zs, _, by go_num, by omega, rfl, Lib.hid ((drewN_ps P9.out _).drop fun p hp => by cases hp)⟩
              case measure => simp [intOf]; omega
          · have hc1 : decide (0 ≤ d.n) = false := by rw [decide_eq_false_iff_not]; exact hb1
            have hCut := Lib.hid (fun (o : Option Nat) (wx : World) (h : ArV wx (.pointer (some ⟨w.heap.size, 0, none⟩)) o R zs) => arcut_v d.n wx h)
            rw [show cutA zs d.n = (zs, false) by unfold cutA; rw [if_neg (by omega)]] at hCut
            simp only at hCut
            go_wp2_with fail
            refine (hCut.out _ _ (P2.out.below (by first | exact Below.refl _ _ | go_grown)).1.1).mono ?_
            intro e w3 hst
            obtain ⟨rfl, o3, P4⟩ := (P2.out.below (by first | exact Below.refl _ _ | go_grown)).step hst
            clear hst hCut P2 c0 c1 c2 c3 c4 c5 c6 c7 hg hc1
            have hm1 : decide ((1 : Int) ≤ d.n) = false := by rw [decide_eq_false_iff_not]; omega
            have hGet := Lib.hid (fun (o : Option Nat) (wx : World) (h : ArV wx (.pointer (some ⟨w.heap.size, 0, none⟩)) o R zs) => arget_none d.n wx h (by omega))
            try clear hn
            obtain ⟨hgd, d0, d1, d2, d3, d4, d5, d6, d7⟩ := cellsD (P4.out.2.2 (wr.heap.size, boxD d) (by simp)).1
            go_wp2_with fail
            refine (hGet.out _ _ (P4.out.below (by first | exact Below.refl _ _ | go_grown)).1.1).mono ?_
            rintro e w9 ⟨rfl, hb⟩
            clear hGet d0 d1 d2 d3 d4 d5 d6 d7
            have P8 := Lib.hid ((P4.out.below (by first | exact Below.refl _ _ | go_grown)).below hb)
            have P9 := Lib.hid (P8.out.add (boxC Cel.zero))
            clear P4 hb
            obtain ⟨hgd, d0, d1, d2, d3, d4, d5, d6, d7⟩ := cellsD (P8.out.2.2 (wr.heap.size, boxD d) (by simp)).1
            have hxe := fun wx => ne_cel0 wx
            have HQ := Lib.hid (fun n => (drewN_ps P9.out n).1.1)
            have hm5 : IntKind.i64.wrap ((R : Int) - (zs.length : Int)) = (R : Int) - (zs.length : Int) := by have := P9.out.1.1.le; rw [IntKind.wrap_i64]; omega
            go_wp2_with fail
            go_quiet ((first | (go_at_call 14; exact Calls.quiet_of_same ((arlen_v (HQ.out _)).mono fun _ _ ⟨a, b⟩ => ⟨a, b.symm⟩)) | (go_at_call 15; exact Calls.quiet_of (arroom_v (HQ.out _))) | (go_at_call 16; exact Calls.quiet_of_same ((HRR.out _).mono fun _ _ ⟨a, b⟩ => ⟨a, b.symm⟩))))
            go_wp2_with fail
            go_roundw
            case rel => exact ⟨k + 1, _, zs, _, by go_num, by omega, rfl, Lib.hid ((drewN_ps P9.out _).drop fun p hp => by cases hp)⟩
            case measure => simp [intOf]; omega
        · have k1' : (d.kind == 1) = false := by rw [beq_eq_false_iff_ne]; exact k1
          clear k1
          have hlen := P2.out.1.1.le
          have hR := HR.out
          by_cases hin1 : 1 ≤ d.n
          · by_cases hin2 : d.n ≤ (zs.length : Int)
            · obtain ⟨hgd, d0, d1, d2, d3, d4, d5, d6, d7⟩ := cellsD (P2.out.2.2 (wr.heap.size, boxD d) (by simp)).1
              go_wp2_with fail
              obtain ⟨m, hm⟩ : ∃ m : Nat, d.n = (m : Int) + 1 := ⟨(d.n - 1).toNat, by omega⟩
              have hmz : m < zs.length := by omega
              have hGet := Lib.hid (fun (o : Option Nat) (wx : World) (h : ArV wx (.pointer (some ⟨w.heap.size, 0, none⟩)) o R zs) => arget_x d.n (zs.getD m Cel.zero) true wx h (by rw [celAt_get hin1]; congr 1; omega) (by rw [decide_eq_true_eq]; omega))
              try clear hn
              refine (hGet.out _ _ (P2.out.below (by first | exact Below.refl _ _ | go_grown)).1.1).mono ?_
              rintro e w9 ⟨rfl, hb⟩
              clear hGet d0 d1 d2 d3 d4 d5 d6 d7
              have P8 := Lib.hid ((P2.out.below (by first | exact Below.refl _ _ | go_grown)).below hb)
              have P9 := Lib.hid (P8.out.add (boxC (zs.getD m Cel.zero)))
              clear P2 hb
              obtain ⟨p5, c5, hf5, _, hcc⟩ := P8.out.2.1.cels.open_
              obtain ⟨g2, o2, hp5, _, hg2, q0, q1, q2, q3, q4, q5⟩ := hcc m hmz
              injection hf5 with e1 e2 e3
              subst e1
              subst hp5
              clear hcc e2 e3
              obtain ⟨hgd, d0, d1, d2, d3, d4, d5, d6, d7⟩ := cellsD (P8.out.2.2 (wr.heap.size, boxD d) (by simp)).1
              rw [hm] at d7
              have hxe := fun wx => ne_cel (zs.getD m Cel.zero) (zs.getD m Cel.zero) wx
              simp only [Cel.beq_self, Bool.not_true] at hxe
              have HQ := Lib.hid (fun n => (drewN_ps P9.out n).1.1)
              have hm1 : (1 : Int) ≤ (m : Int) + 1 := by omega
              have hm2 : (m : Int) + 1 ≤ (zs.length : Int) := by omega
              have hm3 : (m : Int) < (zs.length : Int) := by omega
              have hm4 : IntKind.i64.wrap ((m : Int) + 1 - 1) = (m : Int) := by rw [IntKind.wrap_i64]; omega
              have hm5 : IntKind.i64.wrap ((R : Int) - (zs.length : Int)) = (R : Int) - (zs.length : Int) := by have := P9.out.1.1.le; rw [IntKind.wrap_i64]; omega
              clear hm
              generalize zs.getD m Cel.zero = x at P9 q0 q1 q2 q3 q4 q5 hxe HQ
              go_wp2_with fail
              go_quiet ((first | (go_at_call 14; exact Calls.quiet_of_same ((arlen_v (HQ.out _)).mono fun _ _ ⟨a, b⟩ => ⟨a, b.symm⟩)) | (go_at_call 15; exact Calls.quiet_of (arroom_v (HQ.out _))) | (go_at_call 16; exact Calls.quiet_of_same ((HRR.out _).mono fun _ _ ⟨a, b⟩ => ⟨a, b.symm⟩))))
              go_wp2_with fail
              go_roundw
              case rel => exact ⟨k + 1, _, zs, _, by go_num, by omega, rfl, Lib.hid ((drewN_ps P9.out _).drop fun p hp => by cases hp)⟩
              case measure => simp [intOf]; omega
            · have hm1 : (1 : Int) ≤ d.n := by omega
              have hm2 : decide (d.n ≤ (zs.length : Int)) = false := by rw [decide_eq_false_iff_not]; omega
              have hGet := Lib.hid (fun (o : Option Nat) (wx : World) (h : ArV wx (.pointer (some ⟨w.heap.size, 0, none⟩)) o R zs) => arget_none d.n wx h (by omega))
              try clear hn
              obtain ⟨hgd, d0, d1, d2, d3, d4, d5, d6, d7⟩ := cellsD (P2.out.2.2 (wr.heap.size, boxD d) (by simp)).1
              go_wp2_with fail
              refine (hGet.out _ _ (P2.out.below (by first | exact Below.refl _ _ | go_grown)).1.1).mono ?_
              rintro e w9 ⟨rfl, hb⟩
              clear hGet d0 d1 d2 d3 d4 d5 d6 d7
              have P8 := Lib.hid ((P2.out.below (by first | exact Below.refl _ _ | go_grown)).below hb)
              have P9 := Lib.hid (P8.out.add (boxC Cel.zero))
              clear P2 hb
              obtain ⟨hgd, d0, d1, d2, d3, d4, d5, d6, d7⟩ := cellsD (P8.out.2.2 (wr.heap.size, boxD d) (by simp)).1
              have hxe := fun wx => ne_cel0 wx
              have HQ := Lib.hid (fun n => (drewN_ps P9.out n).1.1)
              have hm5 : IntKind.i64.wrap ((R : Int) - (zs.length : Int)) = (R : Int) - (zs.length : Int) := by have := P9.out.1.1.le; rw [IntKind.wrap_i64]; omega
              go_wp2_with fail
              go_quiet ((first | (go_at_call 14; exact Calls.quiet_of_same ((arlen_v (HQ.out _)).mono fun _ _ ⟨a, b⟩ => ⟨a, b.symm⟩)) | (go_at_call 15; exact Calls.quiet_of (arroom_v (HQ.out _))) | (go_at_call 16; exact Calls.quiet_of_same ((HRR.out _).mono fun _ _ ⟨a, b⟩ => ⟨a, b.symm⟩))))
              go_wp2_with fail
              go_roundw
              case rel => exact ⟨k + 1, _, zs, _, by go_num, by omega, rfl, Lib.hid ((drewN_ps P9.out _).drop fun p hp => by cases hp)⟩
              case measure => simp [intOf]; omega
          · have hm1 : decide ((1 : Int) ≤ d.n) = false := by rw [decide_eq_false_iff_not]; omega
            have hGet := Lib.hid (fun (o : Option Nat) (wx : World) (h : ArV wx (.pointer (some ⟨w.heap.size, 0, none⟩)) o R zs) => arget_none d.n wx h (by omega))
            try clear hn
            obtain ⟨hgd, d0, d1, d2, d3, d4, d5, d6, d7⟩ := cellsD (P2.out.2.2 (wr.heap.size, boxD d) (by simp)).1
            go_wp2_with fail
            refine (hGet.out _ _ (P2.out.below (by first | exact Below.refl _ _ | go_grown)).1.1).mono ?_
            rintro e w9 ⟨rfl, hb⟩
            clear hGet d0 d1 d2 d3 d4 d5 d6 d7
            have P8 := Lib.hid ((P2.out.below (by first | exact Below.refl _ _ | go_grown)).below hb)
            have P9 := Lib.hid (P8.out.add (boxC Cel.zero))
            clear P2 hb
            obtain ⟨hgd, d0, d1, d2, d3, d4, d5, d6, d7⟩ := cellsD (P8.out.2.2 (wr.heap.size, boxD d) (by simp)).1
            have hxe := fun wx => ne_cel0 wx
            have HQ := Lib.hid (fun n => (drewN_ps P9.out n).1.1)
            have hm5 : IntKind.i64.wrap ((R : Int) - (zs.length : Int)) = (R : Int) - (zs.length : Int) := by have := P9.out.1.1.le; rw [IntKind.wrap_i64]; omega
            go_wp2_with fail
            go_quiet ((first | (go_at_call 14; exact Calls.quiet_of_same ((arlen_v (HQ.out _)).mono fun _ _ ⟨a, b⟩ => ⟨a, b.symm⟩)) | (go_at_call 15; exact Calls.quiet_of (arroom_v (HQ.out _))) | (go_at_call 16; exact Calls.quiet_of_same ((HRR.out _).mono fun _ _ ⟨a, b⟩ => ⟨a, b.symm⟩))))
            go_wp2_with fail
            go_roundw
            case rel => exact ⟨k + 1, _, zs, _, by go_num, by omega, rfl, Lib.hid ((drewN_ps P9.out _).drop fun p hp => by cases hp)⟩
            case measure => simp [intOf]; omega
    · have e : k = l.length := by omega
      subst e
      obtain ⟨q, cq, rfl, hcq⟩ := P1.out.2.1.form
      have hlen := P1.out.1.1.le
      have hR := HR.out
      clear HC HOK HPut
      go_wp2_with fail
      go_loopw [153] (fun s153 wx => ∃ j : Nat, s153 = .int .i64 (j : Int) ∧ j ≤ zs.length ∧ Hid (PS w wx (.pointer (some ⟨w.heap.size, 0, none⟩)) o R zs (.slice q zs.length cq) zs [])) (fun s153 _ => zs.length - (intOf s153).toNat)
      case atStart => exact ⟨0, rfl, Nat.zero_le _, P1⟩
      case round =>
        obtain ⟨j, rfl, hj, P2⟩ := hrel
        by_cases hjt : j < zs.length
        · have hGet := Lib.hid (fun (o : Option Nat) (wx : World) (h : ArV wx (.pointer (some ⟨w.heap.size, 0, none⟩)) o R zs) => arget_x ((j : Int) + 1) (zs.getD j Cel.zero) true wx h (by rw [celAt_get (by omega)]; congr 1) (by rw [decide_eq_true_eq]; omega))
          go_wp2_with fail
          refine (hGet.out _ _ (P2.out.below (by first | exact Below.refl _ _ | go_grown)).1.1).mono ?_
          rintro e w9 ⟨rfl, hb⟩
          clear hGet
          have P8 := Lib.hid ((P2.out.below (by first | exact Below.refl _ _ | go_grown)).below hb)
          have P9 := Lib.hid (P8.out.add (boxC (zs.getD j Cel.zero)))
          clear P2 hb
          obtain ⟨p5, c5, hf5, _, hcc⟩ := P8.out.2.1.cels.open_
          obtain ⟨g2, o2, hp5, _, hg2, q0, q1, q2, q3, q4, q5⟩ := hcc j hjt
          injection hf5 with e1 e2 e3
          subst e1
          subst hp5
          clear hcc e2 e3
          have hxe := fun wx => ne_cel (zs.getD j Cel.zero) (zs.getD j Cel.zero) wx
          simp only [Cel.beq_self, Bool.not_true] at hxe
          generalize zs.getD j Cel.zero = x at P9 q0 q1 q2 q3 q4 q5 hxe
          go_wp2_with fail
          go_quiet (fail)
          go_wp2_with fail
          go_roundw
          case rel => exact ⟨j + 1, by go_num, by omega, Lib.hid ((drewN_ps P9.out _).drop fun p hp => by cases hp)⟩
          case measure => simp [intOf]; omega
        · have e : j = zs.length := by omega
          subst e
          go_wp2_with fail
          refine (arlives _).mono ?_
          rintro e w9 ⟨rfl, hb⟩
          have P8 := Lib.hid (P2.out.below hb)
          clear P2 hb
          go_wp2
          go_ret
          exact ⟨rfl, P8.out.1.2.1⟩

theorem own : ownKnob Try.prog.godebug = none := by kernel_rfl
theorem laidOut : laidOutB Try.prog = true := by kernel_rfl
set_option maxRecDepth 100000 in
theorem lifted (os : Os) (started : os.Started) (H : Type) (enc : TypeId × Value → H) :
    ReturnsInHanded {} Try.checked os 3 .any (Rows.arenaPlaysSpec.pre6 enc Try.prog Try.f3 Rows.arenaPlaysRow.domain false) (Rows.arenaPlaysSpec.post enc Try.prog Try.f3 false true false false) := by
  refine returnsInHanded_of_change (C := Try.checked) own started (by kernel_rfl) Try.func3
    (ChangeSpec.witness6 (enc := enc) (C := Try.checked) false ⟨#[], #[.int .i64 0, .slice none 0 0], []⟩ 8 (by kernel_rfl) (by kernel_rfl) (by kernel_rfl) (by kernel_rfl)) ?_
  intro W base args ds gs before hval0 hW hcnd _
  have hval : ∀ (j : Nat) t v, Try.f3.params[j]? = some t → args[j]? = some v → Value.okWide Try.prog W .any base t v := hval0
  have hW' := hW
  obtain ⟨p, q, hA0, hV, rfl, hfz, hnd⟩ := hW
  have hA : DataW.TrodAll enc Try.prog W 0 (fun _ => true) true Try.f3.params.toList args.toList ds p := hA0
  rw [Try.params3] at hA hval
  obtain ⟨v0, vs0, d0, ds0, p0, q0, hargs, rfl, rfl, r0, r0'⟩ := trodAll_cons hA
  obtain ⟨v1, vs1, d1, ds1, p1, q1, rfl, rfl, rfl, r1, r1'⟩ := trodAll_cons r0'
  obtain ⟨rfl, rfl, rfl⟩ := trodAll_nil r1'
  obtain rfl : args = #[v0, v1] := by cases args; simp_all
  obtain ⟨rfl, rfl⟩ := trodVars_none hV
  have hlt : ∀ x ∈ p0 ++ (p1 ++ ([])), x.block < W.heap.size := fun x hx => by simpa using hW'.lt x (by simpa using hx)
  have back0 : ∀ W', Below W.heap.size W W' → DataW.Trod enc Try.prog W' 0 (fun b => decide (b < W.heap.size)) true 3 v0 d0 p0 :=
    fun W' hn => Below.trod laidOut (by kernel_rfl) (of_decide_eq_true (by kernel_rfl)) r0 hn fun x hx => hlt x (by simp [hx])
  have back1 : ∀ W', Below W.heap.size W W' → DataW.Trod enc Try.prog W' 0 (fun b => decide (b < W.heap.size)) true 22 v1 d1 p1 :=
    fun W' hn => Below.trod laidOut (by kernel_rfl) (of_decide_eq_true (by kernel_rfl)) r1 hn fun x hx => hlt x (by simp [hx])
  obtain ⟨room, rfl, _, _, wroom⟩ := open_int Try.underlying3 (hval 0 3 v0 rfl rfl) r0
  have broom := bounds_i64 wroom
  obtain ⟨l, cl, hl, bl⟩ := open_dd5s (hval 1 22 v1 rfl rfl) r1
  clear hA0 hval0
  refine (walk room v1 l W hl bl).mono fun e W' ⟨he, hb⟩ => ?_
  subst he
  exact ⟨_, rfl, _, _, _, [], _, [], hW', trodAll_cons_mk (shut_bool Try.underlying4 _) trodAll_mk0, trodAll_cons_mk (back0 W' hb) (trodAll_cons_mk (back1 W' hb) trodAll_mk0), rfl, hb.frame _, fun h => by cases h⟩
theorem over : Rows.arenaPlaysRow.holds Try.pinned (OpenSpec.ofChange Rows.arenaPlaysSpec) :=
  OpenClaim.holds_of_wide 3 Try.f3 rfl rfl rfl rfl rfl rfl rfl ⟨rfl, rfl, rfl, rfl, rfl⟩ rfl rfl rfl rfl rfl (by kernel_rfl) Try.func3 (by kernel_rfl)
    (of_decide_eq_true (by kernel_rfl)) (by unfold Func.isWrapper; rw [if_neg (by decide +kernel)]; exact ⟨rfl, rfl⟩)
    (fun os started H enc _ => lifted os started H enc)
theorem proved : Rows.ArenaPlaysSaid := over
#print axioms proved
end Go.Proofs.Ytidflgkefdlkfaa.arenaPlays
