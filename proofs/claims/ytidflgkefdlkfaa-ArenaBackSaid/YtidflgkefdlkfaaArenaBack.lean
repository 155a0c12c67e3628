/-
  Proved: whatever room is asked for, whatever deeds and number are handed in, ArenaBack returns true, and the deeds read as they did. No condition.
-/
import Derived.Test.YtidflgkefdlkfaaArSt
import Derived.Deep.QuietTactic
import Derived.BigQuiet
namespace Go.Proofs.Ytidflgkefdlkfaa.arenaBack
open Go.ChangeShapes Go.WideShapes Go.ChangeAt Go.RowKit Base F
theorem arget_none {pv : Value} {o : Option Nat} {room : Nat} {zs : List Cel} (i : Int) (w : World) (h : ArV w pv o room zs) (hi : i < 1 ∨ (zs.length : Int) < i) : Calls Try.prog 13 #[pv, .int .i64 i] w (fun e w' => e = .returned (.tuple #[.agg #[.int .i64 0, .int .i64 0, .int .i64 0, .int .i64 0, .int .i64 0, .int .i64 0], .bool false]) ∧ Below w.heap.size w w') := arget_no i w h hi
theorem drewN_ps {w0 w : World} {pv v : Value} {o : Option Nat} {room : Nat} {zs zq : List Cel} {bs : List (Nat × Obj)} (h : PS w0 w pv o room zs v zq bs) (n : Nat) : PS w0 (w.drewN n) pv o room zs v zq bs := h.below (below_drewN (Below.refl _ _) n)
/-- A list that grows beside an arena. -/
def OQ (w0 w : World) (v : Value) (zs : List Cel) (pv : Value) (o : Option Nat) : Prop := OwnCel w0.heap.size w v zs ∧ ∀ g, v.ownBlock = some g → ¬ VF pv o g
theorem OQ.keep {w0 w w' : World} {v : Value} {zs : List Cel} {pv : Value} {o : Option Nat} (h : OQ w0 w v zs pv o) (hb : Below w.heap.size w w') : OQ w0 w' v zs pv o := ⟨h.1.below hb, h.2⟩
theorem OQ.qs {w0 w : World} {v : Value} {zs : List Cel} {pv : Value} {o : Option Nat} (h : OQ w0 w v zs pv o) (hl : zs.length ≤ 65536) : QS w v zs pv o := by
  rcases h.1.2 with ⟨hv, h0⟩ | ⟨g, cap, cur, hv, _, hg, hc, _⟩
  · exact .inl ⟨List.length_eq_zero_iff.1 h0, none, 0, hv, fun _ => rfl⟩
  · exact .inr ⟨g, 0, cap, hv, hc, heap_lt hg, h.2 g (by rw [hv]; rfl), (h.1.list (by omega)).mono (Nat.zero_le _)⟩
theorem grow_step {w0 X w2 : World} {pv v v2 : Value} {o : Option Nat} {R : Nat} {zs zq zq2 : List Cel} (h : PS w0 X pv o R zs (.slice none 0 0) [] []) (hq : OQ w0 X v zq pv o) (ho : OwnCel w0.heap.size w2 v2 zq2) (hg : X.grownBy w2 v.ownBlock) (hat : v2.ownBlock = v.ownBlock ∨ v2.ownBlock = some X.heap.size) :
    PS w0 w2 pv o R zs (.slice none 0 0) [] [] ∧ OQ w0 w2 v2 zq2 pv o := by
  refine ⟨⟨⟨h.1.1.fr (Fr.of_grown (F := fun g => v.ownBlock = some g) hg fun k hk => hk) (fun g hv hF => hq.2 g hF hv), h.1.2.1.grown hg h.1.2.1.size (fun b hb => (hq.1.base b hb).1), h.1.2.2⟩, QS.nil _ _ _, fun p hp => by cases hp⟩, ho, fun g hgg k => ?_⟩
  rcases hat with e | e
  · exact hq.2 g (e.symm.trans hgg) k
  · have := h.1.1.lt g k
    rw [e] at hgg
    injection hgg with e2
    omega
theorem bk_at {zs : List Cel} (h : Bk zs) {k : Nat} (hk : k < zs.length) : (0 ≤ (zs.getD k Cel.zero).l ∧ (zs.getD k Cel.zero).l ≤ (k : Int)) ∧ (0 ≤ (zs.getD k Cel.zero).r ∧ (zs.getD k Cel.zero).r ≤ (k : Int)) := by
  have := h k zs[k] (List.getElem?_eq_getElem hk)
  rw [List.getD_eq_getElem?_getD, List.getElem?_eq_getElem hk]
  exact this
theorem take_snoc {zs : List Cel} {k : Nat} (hk : k < zs.length) : zs.take (k + 1) = zs.take k ++ [zs.getD k Cel.zero] := by
  rw [List.take_succ_eq_append_getElem hk, List.getD_eq_getElem?_getD, List.getElem?_eq_getElem hk]
  rfl
set_option maxHeartbeats 40000000 in
set_option maxRecDepth 100000 in
theorem walk (room : Int) (v : Value) (l : List Dd5) (n : Int) (w : World) (hl : Dd5s 0 w v l) (hok : ∀ x ∈ l, x.ok) :
    Calls Try.prog 4 #[.int .i64 room, v, .int .i64 n] w fun e w' => e = .returned (.bool true) ∧ Below w.heap.size w w' := by
  have HV := Lib.hid hl
  obtain ⟨p, cp, rfl, hl1, hc⟩ := hl.open_
  clear hl
  go_enter Try.func4, Try.ntmps4
  go_wp2_with fail
  refine (arlives _).mono ?_
  rintro e wl ⟨rfl, hbl⟩
  have B0 := Lib.hid hbl
  clear hbl
  go_wp2_with fail
  refine (arnew_any room wl).mono ?_
  rintro e w1 ⟨rfl, hA, hb⟩
  have P0 : Hid (PS w w1 (.pointer (some ⟨wl.heap.size, 0, none⟩)) none (roomOf room) [] (.slice none 0 0) [] []) := Lib.hid ⟨AI.new hA (B0.out.trans (hb.mono B0.out.size)) B0.out.size, QS.nil _ _ _, fun p hp => by cases hp⟩
  clear hA hb B0
  by_cases h1 : 100 < l.length
  · clear hok hc
    go_wp2_with fail
    go_ret
    exact ⟨rfl, P0.out.1.2.1⟩
  have h2 : l.length ≤ 100 := by omega
  clear h1
  have HC := Lib.hid hc
  have HOK : Hid (∀ k, k < l.length → (l.getD k Dd5.zero).ok) := Lib.hid fun k hk => hok _ (by rw [List.getD_eq_getElem?_getD, List.getElem?_eq_getElem hk]; exact List.getElem_mem hk)
  have HR := Lib.hid (roomOf_le room)
  clear hc hok
  generalize roomOf room = R at HR P0
  generalize hB : wl.heap.size = B at P0 ⊢
  clear hB
  go_wp2_with fail
  go_loopw [34] (fun s34 wr => ∃ (k : Nat) (o : Option Nat) (zs : List Cel), s34 = .int .i64 (k : Int) ∧ k ≤ l.length ∧ Hid (PS w wr (.pointer (some ⟨B, 0, none⟩)) o R zs (.slice none 0 0) [] [])) (fun s34 _ => l.length - (intOf s34).toNat)
  case atStart => exact ⟨0, none, [], rfl, Nat.zero_le _, P0⟩
  case round =>
    obtain ⟨k, o, zs, rfl, hk, P1⟩ := hrel
    by_cases hlt : k < l.length
    · obtain ⟨g', o', rfl, _, hg, c0, c1, c2, c3, c4, c5, c6, c7⟩ := HC.out k hlt
      have c0 := (P1.out.1.2.1.cell (p := ⟨g', _, none⟩) hg).trans c0
      have c1 := (P1.out.1.2.1.cell (p := ⟨g', _, none⟩) hg).trans c1
      have c2 := (P1.out.1.2.1.cell (p := ⟨g', _, none⟩) hg).trans c2
      have c3 := (P1.out.1.2.1.cell (p := ⟨g', _, none⟩) hg).trans c3
      have c4 := (P1.out.1.2.1.cell (p := ⟨g', _, none⟩) hg).trans c4
      have c5 := (P1.out.1.2.1.cell (p := ⟨g', _, none⟩) hg).trans c5
      have c6 := (P1.out.1.2.1.cell (p := ⟨g', _, none⟩) hg).trans c6
      have c7 := (P1.out.1.2.1.cell (p := ⟨g', _, none⟩) hg).trans c7
      have hg := Nat.lt_of_lt_of_le hg P1.out.1.2.1.size
      have hd := HOK.out k hlt
      generalize l.getD k Dd5.zero = d at c0 c1 c2 c3 c4 c5 c6 c7 hd
      have P2 := Lib.hid (P1.out.add (boxD d))
      clear P1
      by_cases k1 : d.kind = 1
      · have k1' : (d.kind == 1) = true := by rw [beq_iff_eq]; exact k1
        clear k1
        have hCut := Lib.hid (fun (o : Option Nat) (wx : World) (h : ArV wx (.pointer (some ⟨B, 0, none⟩)) o R zs) => arcut_v d.n wx h)
        generalize cutA zs d.n = r at hCut
        obtain ⟨zs2, ib⟩ := r
        go_wp2_with fail
        refine (hCut.out _ _ P2.out.1.1).mono ?_
        intro e w3 hs
        obtain ⟨rfl, o3, P4⟩ := P2.out.step hs
        clear hs hCut P2
        go_wp2_with fail
        go_roundw
        case rel => exact ⟨k + 1, _, zs2, by go_num, by omega, Lib.hid (P4.out.drop fun p hp => by cases hp)⟩
        case measure => simp [intOf]; omega
      · have k1' : (d.kind == 1) = false := by rw [beq_eq_false_iff_ne]; exact k1
        clear k1
        have hPut := Lib.hid (fun (o : Option Nat) (wx : World) (h : ArV wx (.pointer (some ⟨B, 0, none⟩)) o R zs) => arput_v d.c wx h (d.c_ok hd))
        generalize putA R zs d.c = r at hPut
        obtain ⟨zs2, ib, ic⟩ := r
        go_wp2_with fail
        refine (hPut.out _ _ P2.out.1.1).mono ?_
        intro e w3 hs
        obtain ⟨rfl, o3, P4⟩ := P2.out.step hs
        clear hs hPut P2
        go_wp2_with fail
        go_roundw
        case rel => exact ⟨k + 1, _, zs2, by go_num, by omega, Lib.hid (P4.out.drop fun p hp => by cases hp)⟩
        case measure => simp [intOf]; omega
    · have e : k = l.length := by omega
      subst e
      have hlen := P1.out.1.1.le
      have hR := HR.out
      have HBK := Lib.hid P1.out.1.1.bk
      clear HC HOK
      have O1 : Hid (OQ w wr (.slice none 0 0) (zs.take 0) (.pointer (some ⟨B, 0, none⟩)) o) := Lib.hid ⟨OwnCel.nil _ _, fun g h => by cases h⟩
      go_wp2_with fail
      go_loopw [10, 11] (fun s10 s11 wx => ∃ (j : Nat) (u : Value), s11 = .int .i64 ((j : Int) + 1) ∧ j ≤ zs.length ∧ u = s10 ∧ Hid (PS w wx (.pointer (some ⟨B, 0, none⟩)) o R zs (.slice none 0 0) [] [] ∧ OQ w wx u (zs.take j) (.pointer (some ⟨B, 0, none⟩)) o)) (fun _ s11 _ => zs.length + 1 - (intOf s11).toNat)
      case atStart => exact ⟨0, _, rfl, Nat.zero_le _, rfl, Lib.hid ⟨P1.out, O1.out⟩⟩
      case round =>
        obtain ⟨j, u, rfl, hj, rfl, P2⟩ := hrel
        have HL := Lib.hid (arlen_v P2.out.1.1.1)
        by_cases hjt : j < zs.length
        · have hjt' : (j : Int) + 1 ≤ (zs.length : Int) := by omega
          have hGet := Lib.hid (fun (wx : World) (h : ArV wx (.pointer (some ⟨B, 0, none⟩)) o R zs) => arget_x ((j : Int) + 1) (zs.getD j Cel.zero) true wx h (by rw [celAt_get (by omega)]; congr 1) (by rw [decide_eq_true_eq]; omega))
          have hbk := bk_at HBK.out hjt
          have hts := Lib.hid (take_snoc hjt)
          have hln : Hid ((zs.take j).length = j) := Lib.hid (by rw [List.length_take]; omega)
          go_wp2_with fail
          refine (HL.out).mono ?_
          rintro e wx2 ⟨rfl, rfl⟩
          go_wp2_with fail
          refine (hGet.out _ P2.out.1.1.1).mono ?_
          rintro e w9 ⟨rfl, hb⟩
          have P8 := Lib.hid (P2.out.1.below hb)
          have O8 := Lib.hid (P2.out.2.keep hb)
          clear hGet P2 hb HL
          generalize zs.getD j Cel.zero = x at hbk hts
          obtain ⟨⟨x1, x2⟩, x3, x4⟩ := hbk
          have x2' : x.l < (j : Int) + 1 := by omega
          have x4' : x.r < (j : Int) + 1 := by omega
          go_wp2_with (at_builtin; refine append_cels rfl (.tmp 86) (.tmp 88) rfl (Nat.le_trans P8.out.1.2.1.size (by simp; omega)) (O8.out.1.below (by go_grown)) rfl (cel_at x (heap_alloc_at _ _ _ (by simp))) rfl (by rw [hln.out]; simp; omega) ?_; intro v2 w2 ho hg2 hat)
          have N : Hid (PS w w2 (.pointer (some ⟨B, 0, none⟩)) o R zs (.slice none 0 0) [] [] ∧ OQ w w2 v2 (zs.take (j + 1)) (.pointer (some ⟨B, 0, none⟩)) o) := Lib.hid (by
            rw [hts.out]
            exact grow_step (((P8.out.add (boxC x)).add (boxC x)).drop fun p hp => by cases hp) ((O8.out.keep ((Below.refl _ _).alloc (Nat.le_refl _) (boxC x))).keep ((Below.refl _ _).alloc (Nat.le_refl _) (boxC x))) ho hg2 hat)
          clear ho hg2 hat
          go_wp2_with fail
          go_roundw
          case rel => exact ⟨j + 1, v2, by go_num, by omega, rfl, N⟩
          case measure => simp [intOf]; omega
        · have e : j = zs.length := by omega
          subst e
          have P3 : Hid (PS w wr (.pointer (some ⟨B, 0, none⟩)) o R zs u zs []) := Lib.hid (P2.out.1.q (by
            have := P2.out.2
            rw [List.take_length] at this
            exact this.qs (by omega)))
          obtain ⟨q, cq, rfl, hcq⟩ := P3.out.2.1.form
          clear P2 HBK
          go_wp2_with fail
          refine (HL.out).mono ?_
          rintro e wx2 ⟨rfl, rfl⟩
          by_cases hn : 0 ≤ n ∧ n ≤ (zs.length : Int)
          · obtain ⟨m, rfl⟩ : ∃ m : Nat, n = (m : Int) := ⟨n.toNat, by omega⟩
            have hmz : m ≤ zs.length := by omega
            have hCut := Lib.hid (arcut_v (m : Int) _ P3.out.1.1)
            rw [show cutA zs (m : Int) = (zs.take m, true) by unfold cutA; rw [if_pos hn, Int.toNat_natCast]] at hCut
            simp only at hCut
            clear hn
            go_wp2_with fail
            refine (hCut.out).mono ?_
            intro e w3 hs
            obtain ⟨rfl, o3, P4⟩ := P3.out.step hs
            clear hs hCut P3 HL
            have hlt : (zs.take m).length = m := by rw [List.length_take]; omega
            have hget : ∀ i, i < m → (zs.take m).getD i Cel.zero = zs.getD i Cel.zero := fun i hi => by rw [List.getD_eq_getElem?_getD, List.getD_eq_getElem?_getD, List.getElem?_take, if_pos hi]
            have HG2 := Lib.hid hget
            clear hget
            generalize zs.take m = zt at P4 hlt HG2
            subst hlt
            go_wp2_with fail
            go_loopw [14] (fun s14 wx => ∃ i : Nat, s14 = .int .i64 (i : Int) ∧ i ≤ zt.length ∧ Hid (PS w wx (.pointer (some ⟨B, 0, none⟩)) o3 R zt (.slice q zs.length cq) zs [])) (fun s14 _ => zt.length - (intOf s14).toNat)
            case atStart => exact ⟨0, rfl, Nat.zero_le _, P4⟩
            case round =>
              obtain ⟨i, rfl, hi, P5⟩ := hrel
              by_cases hit : i < zt.length
              · have hGet := Lib.hid (fun (wx : World) (h : ArV wx (.pointer (some ⟨B, 0, none⟩)) o3 R zt) => arget_x ((i : Int) + 1) (zs.getD i Cel.zero) true wx h (by rw [celAt_get (by omega), ← HG2.out i hit]; congr 1) (by rw [decide_eq_true_eq]; omega))
                go_wp2_with fail
                refine (hGet.out _ P5.out.1.1).mono ?_
                rintro e w9 ⟨rfl, hb⟩
                clear hGet
                have P8 := Lib.hid (P5.out.below hb)
                have P9 := Lib.hid (P8.out.add (boxC (zs.getD i Cel.zero)))
                clear P5 hb
                have hiz : i < zs.length := by omega
                obtain ⟨p5, c5, hf5, _, hcc⟩ := P8.out.2.1.cels.open_
                obtain ⟨g2, o2, hp5, _, hg2, q0, q1, q2, q3, q4, q5⟩ := hcc i hiz
                injection hf5 with e1 e2 e3
                subst e1
                subst hp5
                clear hcc e2 e3
                have hxe := fun wx => ne_cel (zs.getD i Cel.zero) (zs.getD i Cel.zero) wx
                simp only [Cel.beq_self, Bool.not_true] at hxe
                generalize zs.getD i Cel.zero = x at P9 q0 q1 q2 q3 q4 q5 hxe
                go_wp2_with fail
                go_quiet (fail)
                go_wp2_with fail
                go_roundw
                case rel => exact ⟨i + 1, by go_num, by omega, Lib.hid ((drewN_ps P9.out _).drop fun p hp => by cases hp)⟩
                case measure => simp [intOf]; omega
              · have e : i = zt.length := by omega
                subst e
                have hGet := Lib.hid (fun (wx : World) (h : ArV wx (.pointer (some ⟨B, 0, none⟩)) o3 R zt) => arget_none ((zt.length : Int) + 1) wx h (by omega))
                go_wp2_with fail
                refine (hGet.out _ P5.out.1.1).mono ?_
                rintro e w9 ⟨rfl, hb⟩
                clear hGet
                have P8 := Lib.hid (P5.out.below hb)
                have P9 := Lib.hid (P8.out.add (boxC Cel.zero))
                clear P5 hb
                go_wp2_with fail
                refine (arlen_v P9.out.1.1).mono ?_
                rintro e wx2 ⟨rfl, rfl⟩
                go_wp2
                go_ret
                exact ⟨rfl, P9.out.1.2.1⟩
          · have hCut := Lib.hid (arcut_v n _ P3.out.1.1)
            rw [show cutA zs n = (zs, false) by unfold cutA; rw [if_neg hn]] at hCut
            simp only at hCut
            go_wp2_with fail
            refine (hCut.out).mono ?_
            intro e w3 hs
            obtain ⟨rfl, o3, P4⟩ := P3.out.step hs
            clear hs hCut P3 HL
            by_cases hn1 : n < 0
            · clear hn
              go_wp2_with fail
              go_ret
              exact ⟨rfl, P4.out.1.2.1⟩
            · have hn2 : (zs.length : Int) < n := by omega
              have hn3 : 0 ≤ n := by omega
              clear hn hn1
              go_wp2_with fail
              go_ret
              exact ⟨rfl, P4.out.1.2.1⟩
theorem own : ownKnob Try.prog.godebug = none := by kernel_rfl
theorem laidOut : laidOutB Try.prog = true := by kernel_rfl
set_option maxRecDepth 100000 in
theorem lifted (os : Os) (started : os.Started) (H : Type) (enc : TypeId × Value → H) :
    ReturnsInHanded {} Try.checked os 4 .any (Rows.arenaBackSpec.pre6 enc Try.prog Try.f4 Rows.arenaBackRow.domain false) (Rows.arenaBackSpec.post enc Try.prog Try.f4 false true false false) := by
  refine returnsInHanded_of_change (C := Try.checked) own started (by kernel_rfl) Try.func4
    (ChangeSpec.witness6 (enc := enc) (C := Try.checked) false ⟨#[], #[.int .i64 0, .slice none 0 0, .int .i64 0], []⟩ 8 (by kernel_rfl) (by kernel_rfl) (by kernel_rfl) (by kernel_rfl)) ?_
  intro W base args ds gs before hval0 hW hcnd _
  have hval : ∀ (j : Nat) t v, Try.f4.params[j]? = some t → args[j]? = some v → Value.okWide Try.prog W .any base t v := hval0
  have hW' := hW
  obtain ⟨p, q, hA0, hV, rfl, hfz, hnd⟩ := hW
  have hA : DataW.TrodAll enc Try.prog W 0 (fun _ => true) true Try.f4.params.toList args.toList ds p := hA0
  rw [Try.params4] at hA hval
  obtain ⟨v0, vs0, d0, ds0, p0, q0, hargs, rfl, rfl, r0, r0'⟩ := trodAll_cons hA
  obtain ⟨v1, vs1, d1, ds1, p1, q1, rfl, rfl, rfl, r1, r1'⟩ := trodAll_cons r0'
  obtain ⟨v2, vs2, d2, ds2, p2, q2, rfl, rfl, rfl, r2, r2'⟩ := trodAll_cons r1'
  obtain ⟨rfl, rfl, rfl⟩ := trodAll_nil r2'
  obtain rfl : args = #[v0, v1, v2] := by cases args; simp_all
  obtain ⟨rfl, rfl⟩ := trodVars_none hV
  have hlt : ∀ x ∈ p0 ++ (p1 ++ (p2 ++ ([]))), x.block < W.heap.size := fun x hx => by simpa using hW'.lt x (by simpa using hx)
  have back0 : ∀ W', Below W.heap.size W W' → DataW.Trod enc Try.prog W' 0 (fun b => decide (b < W.heap.size)) true 3 v0 d0 p0 :=
    fun W' hn => Below.trod laidOut (by kernel_rfl) (of_decide_eq_true (by kernel_rfl)) r0 hn fun x hx => hlt x (by simp [hx])
  have back1 : ∀ W', Below W.heap.size W W' → DataW.Trod enc Try.prog W' 0 (fun b => decide (b < W.heap.size)) true 22 v1 d1 p1 :=
    fun W' hn => Below.trod laidOut (by kernel_rfl) (of_decide_eq_true (by kernel_rfl)) r1 hn fun x hx => hlt x (by simp [hx])
  have back2 : ∀ W', Below W.heap.size W W' → DataW.Trod enc Try.prog W' 0 (fun b => decide (b < W.heap.size)) true 3 v2 d2 p2 :=
    fun W' hn => Below.trod laidOut (by kernel_rfl) (of_decide_eq_true (by kernel_rfl)) r2 hn fun x hx => hlt x (by simp [hx])
  obtain ⟨room, rfl, _, _, wroom⟩ := open_int Try.underlying3 (hval 0 3 v0 rfl rfl) r0
  have broom := bounds_i64 wroom
  obtain ⟨l, cl, hl, bl⟩ := open_dd5s (hval 1 22 v1 rfl rfl) r1
  obtain ⟨n, rfl, _, _, wn⟩ := open_int Try.underlying3 (hval 2 3 v2 rfl rfl) r2
  have bn := bounds_i64 wn
  clear hA0 hval0
  refine (walk room v1 l n W hl bl).mono fun e W' ⟨he, hb⟩ => ?_
  subst he
  exact ⟨_, rfl, _, _, _, [], _, [], hW', trodAll_cons_mk (shut_bool Try.underlying4 _) trodAll_mk0, trodAll_cons_mk (back0 W' hb) (trodAll_cons_mk (back1 W' hb) (trodAll_cons_mk (back2 W' hb) trodAll_mk0)), rfl, hb.frame _, fun h => by cases h⟩
theorem over : Rows.arenaBackRow.holds Try.pinned (OpenSpec.ofChange Rows.arenaBackSpec) :=
  OpenClaim.holds_of_wide 4 Try.f4 rfl rfl rfl rfl rfl rfl rfl ⟨rfl, rfl, rfl, rfl, rfl⟩ rfl rfl rfl rfl rfl (by kernel_rfl) Try.func4 (by kernel_rfl)
    (of_decide_eq_true (by kernel_rfl)) (by unfold Func.isWrapper; rw [if_neg (by decide +kernel)]; exact ⟨rfl, rfl⟩)
    (fun os started H enc _ => lifted os started H enc)
theorem proved : Rows.ArenaBackSaid := over
#print axioms proved
end Go.Proofs.Ytidflgkefdlkfaa.arenaBack
