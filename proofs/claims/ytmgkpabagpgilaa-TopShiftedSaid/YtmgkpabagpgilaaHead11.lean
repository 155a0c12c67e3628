/-
  Contracts of small functions, several texts laid into one. Not a statement of the seat.
-/
import Derived.Test.YtmgkpabagpgilaaTx5
import Derived.Test.YtmgkpabagpgilaaOp1
import Derived.Test.YtmgkpabagpgilaaHead5
namespace Go.Proofs.Ytmgkpabagpgilaa.Tx
open Go.ChangeShapes Go.WideShapes Go.ChangeAt Go.RowKit Base F Lst
theorem wrN_read (l : List Opr) (o : Opr) (h : o.rd = true) (key : Int) : wrN (l ++ [o]) key = wrN l key := by
  rw [wrN_snoc, if_neg (fun e => by rw [h] at e; cases e.1)]; rfl
theorem WI.read {W : World} {bw bc n : Nat} {l : List Opr} (h : WI W bw bc n l) {o : Opr} (ho : o.rd = true) : WI W bw bc n (l ++ [o]) :=
  ⟨h.1, h.2.1.ext fun p => by rw [wrN_read l o ho], h.2.2.ext fun a => by rw [wrN_read l o ho]⟩
/-- On the way: the transaction's box, that of what is written, the maps. -/
def RS (w wr : World) (b3 bw bc n : Nat) (id : Int) (d : Bool) (s : Value) (pre : List Opr) : Prop :=
  wr.heap[w.heap.size]? = some (boxT id d s) ∧ wr.heap[b3]? = some (boxW bw bc) ∧ WI wr bw bc n pre ∧ Aft w wr ∧ w.heap.size < bw ∧ w.heap.size < bc ∧ w.heap.size < b3 ∧ b3 ≠ bw ∧ b3 ≠ bc
theorem RS.aft {w wr W : World} {b3 bw bc n : Nat} {id : Int} {d : Bool} {s : Value} {pre : List Opr} (h : RS w wr b3 bw bc n id d s pre) (ha : Aft wr W) : RS w W b3 bw bc n id d s pre :=
  ⟨(ha.block _ (heap_lt h.1)).trans h.1, (ha.block _ (heap_lt h.2.1)).trans h.2.1, h.2.2.1.aft ha, h.2.2.2.1.trans ha, h.2.2.2.2⟩
theorem RS.add {w wr W : World} {b3 bw bc n n' : Nat} {id : Int} {d : Bool} {s : Value} {pre pre' : List Opr} (h : RS w wr b3 bw bc n id d s pre) (h1 : WI W bw bc n' pre') (h2 : But2 wr W bw bc) : RS w W b3 bw bc n' id d s pre' := by
  obtain ⟨a1, a2, a3, a4, a5, a6, a7, a8, a9⟩ := h
  exact ⟨(h2.2.2.2.2 _ (heap_lt a1) (by omega) (by omega)).trans a1, (h2.2.2.2.2 _ (heap_lt a2) a8 a9).trans a2, h1, h2.aft a4 (by omega) (by omega), a5, a6, a7, a8, a9⟩
theorem why_ok {x : Opr} (h : Op.rightO x = true) : Op.whyO x = 0 := by unfold Op.whyO; rw [if_pos h]
theorem why_no {x : Opr} (h : Op.rightO x = false) : Op.whyO x = 1 := by unfold Op.whyO; rw [h]; rfl
theorem right_bd {x : Opr} (h : Op.rightO x = true) : (1 ≤ x.k ∧ x.k ≤ 1048575) ∧ (x.rd = true → x.t ≠ 0 → 1 ≤ x.n ∧ x.n ≤ 4095) ∧ (-9223372036854775808 ≤ x.n ∧ x.n ≤ 9223372036854775807) := by
  cases hr : x.rd with
  | false =>
    obtain ⟨h1, h2, h3, h4⟩ := Op.right_w h hr
    exact ⟨⟨h1, h2⟩, fun h => by (cases h), by omega⟩
  | true =>
    obtain ⟨h1, h2, h3⟩ := Op.right_r h hr
    exact ⟨⟨h2, h3⟩, fun _ h => by omega, by omega⟩
set_option maxRecDepth 100000 in
set_option maxHeartbeats 4000000 in
theorem right_any {base : Nat} {s : Value} {l : List Opr} (id : Int) (d : Bool) (w : World) (h : Oprs base w s l) (hl : l.length ≤ 100000) : Calls Try.prog 27 #[.agg #[.int .i64 id, .bool d, s]] w (IntNew (rightT id l) w) := by
  obtain ⟨p, c, rfl, _, hc⟩ := h.open_
  have HC := Lib.hid hc
  have HE : Hid (∀ n w', n = rightT id l → Aft w w' → IntNew (rightT id l) w (.returned (.int .i64 n)) w') := Lib.hid fun n w' h1 h2 => ⟨by rw [h1], h2⟩
  clear h hc
  by_cases h0 : id < 1 ∨ 1048575 < id
  · have HR : Hid (1 = rightT id l) := Lib.hid (by unfold rightT; rw [if_pos h0])
    generalize IntNew (rightT id l) w = Post at HE ⊢
    by_cases h1 : id < 1
    · clear h0
      go_enter Try.func27, Try.ntmps27
      go_wp2
      exact HE.out _ _ HR.out (Aft.one _)
    · have h2 : 1048575 < id := by omega
      clear h0
      go_enter Try.func27, Try.ntmps27
      go_wp2
      exact HE.out _ _ HR.out (Aft.one _)
  · have h1 : ¬ id < 1 := by omega
    have h2 : ¬ 1048575 < id := by omega
    by_cases h3 : 4095 < l.length
    · have HR : Hid (9 = rightT id l) := Lib.hid (by unfold rightT; rw [if_neg h0, if_pos h3])
      generalize IntNew (rightT id l) w = Post at HE ⊢
      have h3' : (4095 : Int) < (l.length : Int) := by omega
      clear h0
      go_enter Try.func27, Try.ntmps27
      go_wp2
      exact HE.out _ _ HR.out (Aft.one _)
    · have HR : Hid (rtGo id [] l = rightT id l) := Lib.hid (by unfold rightT; rw [if_neg h0, if_neg h3])
      generalize IntNew (rightT id l) w = Post at HE ⊢
      have h3' : ¬ (4095 : Int) < (l.length : Int) := by omega
      clear h0 h3
      go_enter Try.func27, Try.ntmps27
      go_wp2_with (go_at_call 40; refine (new_any _).mono ?_; rintro e w1 ⟨bw, bc, rfl, hbw, hbc, h8, h9⟩; simp only [World.size_alloc] at hbw hbc; have HX : Hid (w1.heap[w.heap.size]? = some (boxT id d (.slice p l.length c))) := Lib.hid ((h9.block _ (by simp)).trans (heap_alloc_at _ _ _ rfl)); obtain ⟨hlt1, ⟨x0, x1, x2⟩, _⟩ := cellsT HX.out; have HW := Lib.hid h8; have HA := Lib.hid h9; clear h8 h9)
      have hbw1 : bw < w1.heap.size := HW.out.2.1.lt
      have hbc1 : bc < w1.heap.size := HW.out.2.2.lt
      go_loopw [23] (fun s23 wr => ∃ (k n : Nat), s23 = .int .i64 k ∧ k ≤ l.length ∧ n ≤ k ∧ Hid (RS w wr w1.heap.size bw bc n id d (.slice p l.length c) (l.take k)) ∧ Hid (rtGo id (l.take k) (l.drop k) = rightT id l)) (fun s23 _ => l.length - (intOf s23).toNat)
      case atStart => exact ⟨0, 0, rfl, Nat.zero_le _, Nat.le_refl _, Lib.hid ⟨heap_alloc_lt _ _ _ _ HX.out, heap_alloc_at _ _ _ rfl, HW.out.aft (Aft.one _), ((Aft.one _).trans HA.out).lay _, by omega, by omega, hlt1, by omega, by omega⟩, Lib.hid HR.out⟩
      case round =>
        obtain ⟨k, n, rfl, hk, hnk, HS, HG⟩ := hrel
        by_cases hlt : k < l.length
        · obtain ⟨g', o', rfl, _, hg', c0, c1, c2, c3⟩ := HC.out k hlt
          have d0 := HS.out.2.2.2.1.cell hg' c0
          have d1 := HS.out.2.2.2.1.cell hg' c1
          have d2 := HS.out.2.2.2.1.cell hg' c2
          have d3 := HS.out.2.2.2.1.cell hg' c3
          have HRT := Lib.hid (rt_at id l k hlt)
          have HTK : Hid (l.take (k + 1) = l.take k ++ [l.getD k Opr.zero]) := Lib.hid (take_snoc l Opr.zero k hlt)
          have HTL : Hid ((l.take k).length ≤ 100000) := Lib.hid (by rw [List.length_take]; omega)
          clear c0 c1 c2 c3
          generalize l.getD k Opr.zero = x at d0 d1 d2 d3 HRT HTK
          have HOR : Hid (∀ W, Calls Try.prog 41 #[.agg #[.bool x.rd, .int .i64 x.k, .int .i64 x.t, .int .i64 x.n]] W fun e w' => e = .returned (.int .i64 (Op.whyO x)) ∧ Aft W w') := Lib.hid fun W => Op.right_any x W
          cases hr : Op.rightO x with
          | false =>
            have HV : Hid (1 = rightT id l) := Lib.hid (by rw [← HG.out, HRT.out, if_pos hr])
            rw [why_no hr] at HOR
            have HA2 : Hid (∀ o, Aft w (wr.alloc o)) := Lib.hid fun o => HS.out.2.2.2.1.lay o
            clear HG HRT HTK hr HS
            go_wp2_with (go_at_call 41; refine (HOR.out _).mono ?_; rintro e w2 ⟨rfl, h2⟩; have H2 := Lib.hid ((HA2.out _).trans h2); clear h2)
            exact HE.out _ _ HV.out H2.out
          | true =>
            rw [why_ok hr] at HOR
            have hbd := right_bd hr
            have HS2 : Hid (∀ W, Aft (wr.alloc (boxO x)) W → RS w W w1.heap.size bw bc n id d (.slice (some ⟨g', o', none⟩) l.length c) (l.take k) ∧ W.heap[wr.heap.size]? = some (boxO x)) := Lib.hid fun W hW => ⟨HS.out.aft ((Aft.one _).trans hW), (hW.block _ (by simp)).trans (heap_alloc_at _ _ _ rfl)⟩
            cases hrd : x.rd with
            | false =>
              have HV : Hid (rtGo id (l.take (k + 1)) (l.drop (k + 1)) = rightT id l) := Lib.hid (by rw [← HG.out, HRT.out, if_neg (by rw [hr]; simp), if_neg (fun h => by rw [hrd] at h; cases h.1)])
              obtain ⟨xr, xk, xt, xn⟩ := x
              have hxr : xr = false := hrd
              subst hxr
              have HADD : Hid (∀ W, RS w W w1.heap.size bw bc n id d (.slice (some ⟨g', o', none⟩) l.length c) (l.take k) → Calls Try.prog 42 #[.agg #[.map (some bw), .map (some bc)], .int .i64 xk] W fun e w' => e = .returned (.tuple #[]) ∧ RS w w' w1.heap.size bw bc (n + 1) id d (.slice (some ⟨g', o', none⟩) l.length c) (l.take (k + 1))) := Lib.hid fun W hW => (add_any xt xn xk hW.2.2.1 HTL.out (by omega) (by have := hbd.1; dsimp only at this; omega)).mono fun e w' ⟨e1, e2, e3⟩ => ⟨e1, by rw [HTK.out]; exact hW.add e2 e3⟩
              clear HG HRT hr HS hbd hrd HTK
              go_wp2_with (first
                | (go_at_call 41; refine (HOR.out _).mono ?_; rintro e w2 ⟨rfl, h2⟩; have H2 := Lib.hid (HS2.out _ h2); obtain ⟨_, ⟨y0, y1, y2, y3⟩, _⟩ := cellsO H2.out.2; obtain ⟨_, z0, z1⟩ := cellsW H2.out.1.2.1; clear h2)
                | (go_at_call 42; refine (HADD.out _ H2.out.1).mono ?_; rintro e w3 ⟨rfl, h3⟩; have H3 := Lib.hid h3; clear h3))
              go_roundw
              case rel => exact ⟨k + 1, n + 1, by go_num, by omega, by omega, H3, HV⟩
              case measure => simp [intOf]; omega
            | true =>
              obtain ⟨xr, xk, xt, xn⟩ := x
              have hxr : xr = true := hrd
              subst hxr
              dsimp only at hbd
              have HNX : Hid (∀ W, RS w W w1.heap.size bw bc n id d (.slice (some ⟨g', o', none⟩) l.length c) (l.take k) → RS w W w1.heap.size bw bc n id d (.slice (some ⟨g', o', none⟩) l.length c) (l.take (k + 1))) := Lib.hid fun W h => by
                rw [HTK.out]
                exact ⟨h.1, h.2.1, h.2.2.1.read rfl, h.2.2.2⟩
              by_cases ht : xt = id
              · have hn1 : 1 ≤ xn := (hbd.2.1 rfl (by omega)).1
                by_cases hw : ((wrN (l.take k) xk : Nat) : Int) < xn
                · have HV : Hid (6 = rightT id l) := Lib.hid (by rw [← HG.out, HRT.out, if_neg (by rw [hr]; simp), if_pos ⟨rfl, ht, hw⟩])
                  have HHAS : Hid (∀ W, RS w W w1.heap.size bw bc n id d (.slice (some ⟨g', o', none⟩) l.length c) (l.take k) → Calls Try.prog 43 #[.agg #[.map (some bw), .map (some bc)], .int .i64 xk, .int .i64 xn] W fun e w' => e = .returned (.bool false) ∧ Aft W w') := Lib.hid fun W hW => by
                    have := has_any xk xn hW.2.2.1 (by omega) hbd.2.2
                    rw [decide_eq_false (by omega)] at this
                    exact this
                  subst ht
                  clear HG HRT hr HS hbd hrd HTK hw HNX
                  go_wp2_with (first
                    | (go_at_call 41; refine (HOR.out _).mono ?_; rintro e w2 ⟨rfl, h2⟩; have H2 := Lib.hid (HS2.out _ h2); obtain ⟨_, ⟨y0, y1, y2, y3⟩, _⟩ := cellsO H2.out.2; obtain ⟨_, z0, z1⟩ := cellsW H2.out.1.2.1; obtain ⟨_, ⟨v0, _, _⟩, _⟩ := cellsT H2.out.1.1; clear h2)
                    | (go_at_call 43; refine (HHAS.out _ H2.out.1).mono ?_; rintro e w3 ⟨rfl, h3⟩; have H3 := Lib.hid (H2.out.1.2.2.2.1.trans h3); clear h3))
                  exact HE.out _ _ HV.out H3.out
                · have HV : Hid (rtGo id (l.take (k + 1)) (l.drop (k + 1)) = rightT id l) := Lib.hid (by rw [← HG.out, HRT.out, if_neg (by rw [hr]; simp), if_neg (fun h => hw h.2.2)])
                  have HHAS : Hid (∀ W, RS w W w1.heap.size bw bc n id d (.slice (some ⟨g', o', none⟩) l.length c) (l.take k) → Calls Try.prog 43 #[.agg #[.map (some bw), .map (some bc)], .int .i64 xk, .int .i64 xn] W fun e w' => e = .returned (.bool true) ∧ Aft W w') := Lib.hid fun W hW => by
                    have := has_any xk xn hW.2.2.1 (by omega) hbd.2.2
                    rw [decide_eq_true (by omega)] at this
                    exact this
                  subst ht
                  clear HG HRT hr HS hbd hrd HTK hw
                  go_wp2_with (first
                    | (go_at_call 41; refine (HOR.out _).mono ?_; rintro e w2 ⟨rfl, h2⟩; have H2 := Lib.hid (HS2.out _ h2); obtain ⟨_, ⟨y0, y1, y2, y3⟩, _⟩ := cellsO H2.out.2; obtain ⟨_, z0, z1⟩ := cellsW H2.out.1.2.1; obtain ⟨_, ⟨v0, _, _⟩, _⟩ := cellsT H2.out.1.1; clear h2)
                    | (go_at_call 43; refine (HHAS.out _ H2.out.1).mono ?_; rintro e w3 ⟨rfl, h3⟩; have H3 := Lib.hid (HNX.out _ (H2.out.1.aft h3)); clear h3))
                  go_roundw
                  case rel => exact ⟨k + 1, n, by go_num, by omega, by omega, H3, HV⟩
                  case measure => simp [intOf]; omega
              · have HV : Hid (rtGo id (l.take (k + 1)) (l.drop (k + 1)) = rightT id l) := Lib.hid (by rw [← HG.out, HRT.out, if_neg (by rw [hr]; simp), if_neg (fun h => ht h.2.1)])
                have hd : (xt == id) = false := by rw [beq_eq_false_iff_ne]; exact ht
                clear HG HRT hr HS hbd hrd HTK ht
                go_wp2_with (go_at_call 41; refine (HOR.out _).mono ?_; rintro e w2 ⟨rfl, h2⟩; have H2 := Lib.hid (HS2.out _ h2); obtain ⟨_, ⟨y0, y1, y2, y3⟩, _⟩ := cellsO H2.out.2; obtain ⟨_, z0, z1⟩ := cellsW H2.out.1.2.1; obtain ⟨_, ⟨v0, _, _⟩, _⟩ := cellsT H2.out.1.1; clear h2)
                go_roundw
                case rel => exact ⟨k + 1, n, by go_num, by omega, by omega, Lib.hid (HNX.out _ H2.out.1), HV⟩
                case measure => simp [intOf]; omega
        · have HV : Hid (0 = rightT id l) := Lib.hid (by rw [← HG.out, rt_end id l k (by omega)])
          have HA2 := Lib.hid HS.out.2.2.2.1
          clear HG HS
          go_wp2
          exact HE.out _ _ HV.out HA2.out
end Go.Proofs.Ytmgkpabagpgilaa.Tx
namespace Go.Proofs.Ytmgkpabagpgilaa.Tx
open Go.ChangeShapes Go.WideShapes Go.ChangeAt Go.RowKit Base F Lst
def gV (p : Ver) : Value := .agg #[.int .i64 p.t, .int .i64 p.k, .int .i64 p.n]
theorem gV_inj {p q : Ver} (h : gV p = gV q) : p = q := by
  obtain ⟨a, b, c⟩ := p
  obtain ⟨a', b', c'⟩ := q
  simp [gV] at h
  rw [h.1, h.2.1, h.2.2]
def boxV (p : Ver) : Obj := .cells #[.int .i64 p.t, .int .i64 p.k, .int .i64 p.n] 80
theorem inV_snoc (acc : List Ver) (v x : Ver) : inV (acc ++ [v]) x = (inV acc x || Ver.beq v x) := by unfold inV; rw [List.any_append]; simp
theorem cellsV {w W : World} {p : Ver} (h : W.heap[w.heap.size]? = (w.alloc (boxV p)).heap[w.heap.size]?) : W.cell? ⟨w.heap.size, 0, none⟩ = some (.int .i64 p.t) ∧ W.cell? ⟨w.heap.size, 1, none⟩ = some (.int .i64 p.k) ∧ W.cell? ⟨w.heap.size, 2, none⟩ = some (.int .i64 p.n) := by
  rw [heap_alloc_at _ _ _ rfl] at h
  unfold boxV at h
  simp [World.cell?, h]
/-- On the way: the transaction's box, what was met, the versions. -/
def NI (w wr : World) (id : Int) (d : Bool) (s : Value) (n : Nat) (acc : List Ver) (v : Value) : Prop :=
  wr.heap[w.heap.size]? = some (boxT id d s) ∧ Mp.MB Try.prog 80 4 gV wr (w.heap.size + 1) n (inV acc) ∧ OwnVer (w.heap.size + 2) wr v acc ∧ Aft w wr
theorem NI.aft {w wr W : World} {id : Int} {d : Bool} {s v : Value} {n : Nat} {acc : List Ver} (h : NI w wr id d s n acc v) (ha : Aft wr W) : NI w W id d s n acc v :=
  ⟨(ha.block _ (heap_lt h.1)).trans h.1, h.2.1.below ha, h.2.2.1.below ha, h.2.2.2.trans ha⟩
theorem NI.lay {w wr : World} {id : Int} {d : Bool} {s v : Value} {n : Nat} {acc : List Ver} (h : NI w wr id d s n acc v) (o : Obj) : NI w (wr.alloc o) id d s n acc v := h.aft (Aft.one o)
/-- One is put into the map, then into the list. -/
def NM (w wr : World) (id : Int) (d : Bool) (s : Value) (n : Nat) (acc acc' : List Ver) (v : Value) : Prop :=
  wr.heap[w.heap.size]? = some (boxT id d s) ∧ Mp.MB Try.prog 80 4 gV wr (w.heap.size + 1) n (inV acc') ∧ OwnVer (w.heap.size + 2) wr v acc ∧ Aft w wr
theorem NI.put {w wr w' : World} {id : Int} {d : Bool} {s v : Value} {n n' : Nat} {acc acc' : List Ver} (h : NI w wr id d s n acc v) (hm : Mp.MB Try.prog 80 4 gV w' (w.heap.size + 1) n' (inV acc')) (hg : wr.grownBy w' (some (w.heap.size + 1))) : NM w w' id d s n' acc acc' v :=
  ⟨(hg.block _ (heap_lt h.1) (fun e => by injection e with e; omega)).trans h.1, hm, h.2.2.1.kept hg (.inr fun e => by have := (h.2.2.1.base _ e).1; omega), Below.grown h.2.2.2 hg h.2.2.2.size (fun k hk => by injection hk with hk; omega)⟩
theorem NM.lay {w wr : World} {id : Int} {d : Bool} {s v : Value} {n : Nat} {acc acc' : List Ver} (h : NM w wr id d s n acc acc' v) (o : Obj) : NM w (wr.alloc o) id d s n acc acc' v :=
  ⟨heap_alloc_lt _ _ _ _ h.1, h.2.1.lay rfl o, h.2.2.1.lay rfl o, h.2.2.2.lay o⟩
theorem NM.app {w wr w' : World} {id : Int} {d : Bool} {s v v' : Value} {n : Nat} {acc acc' : List Ver} (h : NM w wr id d s n acc acc' v) (ho : OwnVer (w.heap.size + 2) w' v' acc') (hg : wr.grownBy w' v.ownBlock) : NI w w' id d s n acc' v' := by
  have hne : ∀ j, j ≤ w.heap.size + 1 → some j ≠ v.ownBlock := fun j hj e => by have := (h.2.2.1.base j e.symm).1; omega
  exact ⟨(hg.block _ (heap_lt h.1) (hne _ (by omega))).trans h.1, h.2.1.heap (hg.block _ h.2.1.lt (hne _ (by omega))), ho, Below.grown h.2.2.2 hg h.2.2.2.size (fun k hk => by have := (h.2.2.1.base k hk).1; omega)⟩
def VerNew (xs : List Ver) (w : World) (e : Ending) (w' : World) : Prop := ∃ v, e = .returned v ∧ OwnVer w.heap.size w' v xs ∧ Aft w w'
theorem ownVer_mono {B B' : Nat} {w : World} {v : Value} {zs : List Ver} (h : OwnVer B w v zs) (hb : B' ≤ B) : OwnVer B' w v zs := by
  refine ⟨h.1, ?_⟩
  rcases h.2 with hn | ⟨g, cap, cur, hv, hB, rest⟩
  · exact .inl hn
  · exact .inr ⟨g, cap, cur, hv, Nat.le_trans hb hB, rest⟩
set_option maxRecDepth 100000 in
set_option maxHeartbeats 4000000 in
theorem needs_any {base : Nat} {s : Value} {l : List Opr} (id : Int) (d : Bool) (w : World) (h : Oprs base w s l) (hok : ∀ x ∈ l, Opr.ok x) (hl : l.length ≤ 100000) : Calls Try.prog 31 #[.agg #[.int .i64 id, .bool d, s]] w (VerNew (needsL id l) w) := by
  obtain ⟨p, c, rfl, _, hc⟩ := h.open_
  have HC := Lib.hid hc
  have HOK : Hid (∀ k, k < l.length → Opr.ok (l.getD k Opr.zero)) := Lib.hid fun k hk => hok _ (by rw [List.getD_eq_getElem?_getD, List.getElem?_eq_getElem hk]; simp)
  have HE : Hid (∀ v w', OwnVer (w.heap.size + 2) w' v (needsL id l) → Aft w w' → VerNew (needsL id l) w (.returned v) w') := Lib.hid fun v w' h1 h2 => ⟨v, rfl, ownVer_mono h1 (by omega), h2⟩
  have hmm := @run_makeMap Try.prog
  clear h hc hok
  generalize VerNew (needsL id l) w = Post at HE ⊢
  go_enter Try.func31, Try.ntmps31
  go_wp2
  clear hmm
  go_loopw [3, 12] (fun s3 s12 wr => ∃ (k n : Nat) (acc : List Ver), s12 = .int .i64 k ∧ k ≤ l.length ∧ n ≤ k ∧ acc.length ≤ k ∧ Hid (NI w wr id d (.slice p l.length c) n acc s3) ∧ Hid (acc = needsL id (l.take k))) (fun _ s12 _ => l.length - (intOf s12).toNat)
  case atStart => exact ⟨0, 0, [], rfl, Nat.zero_le _, Nat.le_refl _, Nat.le_refl _, Lib.hid ⟨heap_alloc_lt _ _ _ _ (heap_alloc_at _ _ _ rfl), (Mp.MB.made (heap_alloc_at _ _ _ (by simp))).ext fun _ => rfl, OwnVer.nil _ _, (Aft.one _).lay _⟩, Lib.hid rfl⟩
  case round =>
    obtain ⟨k, n, acc, rfl, hk, hnk, hac, HN, HG⟩ := hrel
    by_cases hlt : k < l.length
    · obtain ⟨g', o', rfl, _, hg', c0, c1, c2, c3⟩ := HC.out k hlt
      have hxo := HOK.out k hlt
      have d0 := HN.out.2.2.2.cell hg' c0
      have d1 := HN.out.2.2.2.cell hg' c1
      have d2 := HN.out.2.2.2.cell hg' c2
      have d3 := HN.out.2.2.2.cell hg' c3
      have HS : Hid (needsL id (l.take (k + 1)) = needStep id acc (l.getD k Opr.zero)) := Lib.hid (by rw [take_snoc l Opr.zero k hlt, needs_snoc, HG.out])
      clear c0 c1 c2 c3 HG
      generalize l.getD k Opr.zero = x at d0 d1 d2 d3 HS hxo
      obtain ⟨xr, xk, xt, xn⟩ := x
      dsimp only at d0 d1 d2 d3
      obtain ⟨hok1, hok2, hok3⟩ := hxo
      dsimp only at hok1 hok2 hok3
      cases xr with
      | false =>
        have HF : Hid (acc = needsL id (l.take (k + 1))) := Lib.hid (by rw [HS.out]; rfl)
        clear HS
        go_wp2_with (go_at_call 46; refine (Op.of_w _ _ _ _).mono ?_; rintro e w2 ⟨rfl, h2⟩; have H2 := Lib.hid (fun o => ((HN.out.lay _).aft h2).lay o); clear h2)
        go_roundw
        case rel => exact ⟨k + 1, n, acc, by go_num, by omega, by omega, by omega, Lib.hid (H2.out _), HF⟩
        case measure => simp [intOf]; omega
      | true =>
        by_cases h0 : xt = 0
        · have HF : Hid (acc = needsL id (l.take (k + 1))) := Lib.hid (by rw [HS.out]; simp [needStep, need, h0])
          subst h0
          clear HS
          go_wp2_with (go_at_call 46; refine (Op.of_r _ _ _ _).mono ?_; rintro e w2 ⟨rfl, h2⟩; have H2 := Lib.hid (fun o => ((HN.out.lay _).aft h2).lay o); clear h2)
          go_roundw
          case rel => exact ⟨k + 1, n, acc, by go_num, by omega, by omega, by omega, Lib.hid (H2.out _), HF⟩
          case measure => simp [intOf]; omega
        · have e0 : (xt == 0) = false := by rw [beq_eq_false_iff_ne]; exact h0
          by_cases h1 : xt = id
          · have HF : Hid (acc = needsL id (l.take (k + 1))) := Lib.hid (by rw [HS.out]; simp [needStep, need, h1])
            subst h1
            clear HS
            go_wp2_with (go_at_call 46; refine (Op.of_r _ _ _ _).mono ?_; rintro e w2 ⟨rfl, h2⟩; have H2 := Lib.hid (fun o => ((HN.out.lay _).aft h2).lay o); obtain ⟨_, ⟨v0, _, _⟩, _⟩ := cellsT ((HN.out.lay _).aft h2).1; clear h2)
            go_roundw
            case rel => exact ⟨k + 1, n, acc, by go_num, by omega, by omega, by omega, Lib.hid (H2.out _), HF⟩
            case measure => simp [intOf]; omega
          · have e1 : (xt == id) = false := by rw [beq_eq_false_iff_ne]; exact h1
            obtain ⟨kl, hkl⟩ := Mp.key_v xt xk xn hok2 hok1 hok3
            have HKL := Lib.hid hkl
            clear hkl
            cases hin : inV acc ⟨xt, xk, xn⟩ with
            | true =>
              have HF : Hid (acc = needsL id (l.take (k + 1))) := Lib.hid (by rw [HS.out]; simp [needStep, need, verO, hin])
              have HL : Hid (∀ W o, Aft (wr.alloc (boxO ⟨true, xk, xt, xn⟩)) W → (Instr.lookup 100 (.map (some (w.heap.size + 1))) (.agg #[.int .i64 xt, .int .i64 xk, .int .i64 xn]) false).run Try.prog (W.alloc o) = .ok (.bool true) (W.alloc o)) := Lib.hid fun W o h2 => by
                have := (((HN.out.lay _).aft h2).lay o).2.1.look Mp.keyedV Try.underlying100 Try.underlying4 (zeroB _) ⟨xt, xk, xn⟩ HKL.out
                rwa [hin] at this
              clear HS hin
              go_wp2_with (go_at_call 46; refine (Op.of_r _ _ _ _).mono ?_; rintro e w2 ⟨rfl, h2⟩; have H2 := Lib.hid (fun o => ((HN.out.lay _).aft h2).lay o); obtain ⟨_, ⟨v0, _, _⟩, _⟩ := cellsT ((HN.out.lay _).aft h2).1; have hlook := HL.out _ (boxV ⟨xt, xk, xn⟩) h2; unfold boxV at hlook; clear h2)
              clear hlook
              go_roundw
              case rel => exact ⟨k + 1, n, acc, by go_num, by omega, by omega, by omega, Lib.hid (H2.out _), HF⟩
              case measure => simp [intOf]; omega
            | false =>
              have HF : Hid (acc ++ [(⟨xt, xk, xn⟩ : Ver)] = needsL id (l.take (k + 1))) := Lib.hid (by rw [HS.out]; simp [needStep, need, verO, hin, h0, h1])
              have HL : Hid (∀ W o, Aft (wr.alloc (boxO ⟨true, xk, xt, xn⟩)) W → (Instr.lookup 100 (.map (some (w.heap.size + 1))) (.agg #[.int .i64 xt, .int .i64 xk, .int .i64 xn]) false).run Try.prog (W.alloc o) = .ok (.bool false) (W.alloc o)) := Lib.hid fun W o h2 => by
                have := (((HN.out.lay _).aft h2).lay o).2.1.look Mp.keyedV Try.underlying100 Try.underlying4 (zeroB _) ⟨xt, xk, xn⟩ HKL.out
                rwa [hin] at this
              have HSM : Hid (∀ z, gV z = gV ⟨xt, xk, xn⟩ → inV (acc ++ [(⟨xt, xk, xn⟩ : Ver)]) z = true) := Lib.hid fun z e => by rw [gV_inj e, inV_snoc, Ver.beq_self, Bool.or_true]
              have HOT : Hid (∀ z, gV z ≠ gV ⟨xt, xk, xn⟩ → inV (acc ++ [(⟨xt, xk, xn⟩ : Ver)]) z = inV acc z) := Lib.hid fun z e => by
                rw [inV_snoc]
                have : Ver.beq ⟨xt, xk, xn⟩ z = false := by
                  rw [Bool.eq_false_iff]
                  intro h
                  exact e (by rw [(Ver.beq_iff _ _).1 h])
                rw [this, Bool.or_false]
              have hmx : n < maxLen := by simp only [maxLen]; omega
              clear HS hin
              go_wp2_with (first
                | (go_at_call 46; refine (Op.of_r _ _ _ _).mono ?_; rintro e w2 ⟨rfl, h2⟩; have H2 := Lib.hid (fun o => ((HN.out.lay _).aft h2).lay o); obtain ⟨_, ⟨v0, _, _⟩, _⟩ := cellsT ((HN.out.lay _).aft h2).1; have hlook := HL.out _ (boxV ⟨xt, xk, xn⟩) h2; unfold boxV at hlook; have h2s : wr.heap.size + 1 ≤ w2.heap.size := (by have := Below.size h2; simpa using this); clear h2)
                | (at_mapUpdate; go_loud (refine Mp.wp_store Mp.keyedV Try.underlying100 Try.underlying4 rfl (.tmp 33) (.tmp 34) (.const (.bool true)) rfl (H2.out _).2.1 hmx rfl ⟨xt, xk, xn⟩ rfl HKL.out true rfl (inV (acc ++ [(⟨xt, xk, xn⟩ : Ver)])) HSM.out HOT.out ?_; intro w3 h3 hg3; have H3 := Lib.hid ((H2.out _).put h3 hg3); obtain ⟨y0, y1, y2⟩ : w3.cell? ⟨w2.heap.size, 0, none⟩ = some (.int .i64 xt) ∧ w3.cell? ⟨w2.heap.size, 1, none⟩ = some (.int .i64 xk) ∧ w3.cell? ⟨w2.heap.size, 2, none⟩ = some (.int .i64 xn) := cellsV (w := w2) (p := ⟨xt, xk, xn⟩) (hg3.block w2.heap.size (by simp) (fun e => by injection e with e; have := HN.out.2.1.lt; omega)) ; clear h3 hg3 hlook h2s))
                | (at_builtin; refine append_vers rfl (.tmp 35) (.tmp 37) rfl (by have := H3.out.2.2.2.size; have := H3.out.2.1.lt; simp; omega) (H3.out.lay _).2.2.1 rfl (ver_at ⟨xt, xk, xn⟩ (heap_alloc_at _ _ _ (by simp))) rfl (by simp only [List.length_cons, List.length_nil]; omega) ?_; intro v5 w5 h5 hg5 _; have H5 := Lib.hid ((H3.out.lay _).app h5 hg5); clear h5 hg5))
              go_roundw
              case rel => exact ⟨k + 1, n + 1, acc ++ [⟨xt, xk, xn⟩], by go_num, by omega, by omega, by simp; omega, H5, HF⟩
              case measure => simp [intOf]; omega
    · have HF : Hid (acc = needsL id l) := Lib.hid (by rw [HG.out, List.take_of_length_le (by omega)])
      have HN2 := Lib.hid HN.out.2.2.2
      have HO := Lib.hid HN.out.2.2.1
      clear HG HN
      go_wp2
      exact HE.out _ _ (by rw [← HF.out]; exact HO.out) HN2.out
end Go.Proofs.Ytmgkpabagpgilaa.Tx
namespace Go.Proofs.Ytmgkpabagpgilaa.Tx
open Go.ChangeShapes Go.WideShapes Go.ChangeAt Go.RowKit Base F Lst
/-- On the way: the transaction's box, the versions. -/
def RN (w wr : World) (id : Int) (d : Bool) (s : Value) (acc : List Ver) (v : Value) : Prop :=
  wr.heap[w.heap.size]? = some (boxT id d s) ∧ OwnVer (w.heap.size + 1) wr v acc ∧ Aft w wr
theorem RN.aft {w wr W : World} {id : Int} {d : Bool} {s v : Value} {acc : List Ver} (h : RN w wr id d s acc v) (ha : Aft wr W) : RN w W id d s acc v :=
  ⟨(ha.block _ (heap_lt h.1)).trans h.1, h.2.1.below ha, h.2.2.trans ha⟩
theorem RN.lay {w wr : World} {id : Int} {d : Bool} {s v : Value} {acc : List Ver} (h : RN w wr id d s acc v) (o : Obj) : RN w (wr.alloc o) id d s acc v := h.aft (Aft.one o)
theorem RN.app {w wr w' : World} {id : Int} {d : Bool} {s v v' : Value} {acc acc' : List Ver} (h : RN w wr id d s acc v) (ho : OwnVer (w.heap.size + 1) w' v' acc') (hg : wr.grownBy w' v.ownBlock) : RN w w' id d s acc' v' := by
  have hne : ∀ j, j ≤ w.heap.size → some j ≠ v.ownBlock := fun j hj e => by have := (h.2.1.base j e.symm).1; omega
  exact ⟨(hg.block _ (heap_lt h.1) (hne _ (Nat.le_refl _))).trans h.1, ho, Below.grown h.2.2 hg h.2.2.size (fun k hk => by have := (h.2.1.base k hk).1; omega)⟩
end Go.Proofs.Ytmgkpabagpgilaa.Tx
