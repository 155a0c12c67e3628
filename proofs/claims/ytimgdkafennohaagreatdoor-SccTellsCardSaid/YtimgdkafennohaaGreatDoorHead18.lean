/-
  Contracts of small functions, several texts laid into one. Not a statement of the seat.
-/
import Derived.Test.YtimgdkafennohaaGreatDoorHead6
import Derived.Test.YtimgdkafennohaaGreatDoorHead3
import Derived.Deep.QuietTactic
import Derived.BigQuiet
namespace Go.Proofs.YtimgdkafennohaaGreatDoor.Gr
open Go.ChangeShapes Go.WideShapes Go.ChangeAt Go.RowKit Base F Rf
open Go.Proofs.YtimgdkafennohaaGreatDoor.Tx (Aft Aft.refl Aft.lay Aft.trans Aft.one Aft.cell Aft.drew BoolNew)
instance : DecidableEq Arc := fun x y => decidable_of_iff (Arc.beq x y = true) (Arc.beq_iff x y)
def bxA (x : Arc) : Obj := .cells #[.int .i64 x.fr, .int .i64 x.to, .int .i64 x.kd, .int .i64 x.lb] 28
def vA (x : Arc) : Value := .agg #[.int .i64 x.fr, .int .i64 x.to, .int .i64 x.kd, .int .i64 x.lb]
theorem cellsA {w : World} {g : Nat} {b : Arc} (h : w.heap[g]? = some (bxA b)) : w.cell? ⟨g, 0, none⟩ = some (.int .i64 b.fr) ∧ w.cell? ⟨g, 1, none⟩ = some (.int .i64 b.to) ∧ w.cell? ⟨g, 2, none⟩ = some (.int .i64 b.kd) ∧ w.cell? ⟨g, 3, none⟩ = some (.int .i64 b.lb) := by
  unfold bxA at h
  simp [World.cell?, h]
def RA (w wr : World) (v : Value) (zs : List Arc) : Prop := Aft w wr ∧ OwnArc w.heap.size wr v zs
theorem RA.aft {w wr W : World} {v : Value} {zs : List Arc} (h : RA w wr v zs) (ha : Aft wr W) : RA w W v zs := ⟨h.1.trans ha, h.2.below ha⟩
theorem RA.lay {w wr : World} {v : Value} {zs : List Arc} (h : RA w wr v zs) (o : Obj) : RA w (wr.alloc o) v zs := h.aft (Aft.one o)
theorem RA.app {w wr W : World} {v v' : Value} {zs zs' : List Arc} (h : RA w wr v zs) (ho : OwnArc w.heap.size W v' zs') (hg : wr.grownBy W v.ownBlock) : RA w W v' zs' := ⟨Below.grown h.1 hg h.1.size (fun q hq => (h.2.base q hq).1), ho⟩
theorem ownA_less {B B' : Nat} {w : World} {v : Value} {zs : List Arc} (h : OwnArc B w v zs) (hb : B' ≤ B) : OwnArc B' w v zs := by
  refine ⟨h.1, ?_⟩
  rcases h.2 with h2 | ⟨g, cap, cur, h1, h2, h3⟩
  · exact .inl h2
  · exact .inr ⟨g, cap, cur, h1, Nat.le_trans hb h2, h3⟩
/-- The same, with a box of the call's own at the first new place. -/
def RB (w : World) (a : Arc) (wr : World) (v : Value) (zs : List Arc) : Prop := Aft w wr ∧ OwnArc (w.heap.size + 1) wr v zs ∧ wr.heap[w.heap.size]? = some (bxA a)
theorem RB.aft {w wr W : World} {a : Arc} {v : Value} {zs : List Arc} (h : RB w a wr v zs) (ha : Aft wr W) : RB w a W v zs := ⟨h.1.trans ha, h.2.1.below ha, (ha.block _ (heap_lt h.2.2)).trans h.2.2⟩
theorem RB.lay {w wr : World} {a : Arc} {v : Value} {zs : List Arc} (h : RB w a wr v zs) (o : Obj) : RB w a (wr.alloc o) v zs := h.aft (Aft.one o)
theorem RB.app {w wr W : World} {a : Arc} {v v' : Value} {zs zs' : List Arc} (h : RB w a wr v zs) (ho : OwnArc (w.heap.size + 1) W v' zs') (hg : wr.grownBy W v.ownBlock) : RB w a W v' zs' :=
  ⟨Below.grown h.1 hg h.1.size (fun q hq => by have := (h.2.1.base q hq).1; omega), ho, (hg.block _ (heap_lt h.2.2) (fun e => by have := (h.2.1.base _ e.symm).1; omega)).trans h.2.2⟩
theorem RB.sz {w wr : World} {a : Arc} {v : Value} {zs : List Arc} (h : RB w a wr v zs) : w.heap.size + 1 ≤ wr.heap.size := heap_lt h.2.2
theorem RB.ra {w wr : World} {a : Arc} {v : Value} {zs : List Arc} (h : RB w a wr v zs) : RA w wr v zs := ⟨h.1, ownA_less h.2.1 (by omega)⟩
theorem RB.start (w : World) (a : Arc) : RB w a (w.alloc (bxA a)) (.slice none 0 0) [] := ⟨Aft.one _, OwnArc.nil _ _, heap_alloc_at _ _ _ rfl⟩
/-- What a call that tells a new list of arcs leaves. -/
def ArcsP (zs : List Arc) (w : World) (e : Ending) (w' : World) : Prop := ∃ v, e = .returned v ∧ RA w w' v zs
/-- Whether two lists are one, walked together. -/
def sameA : List Arc → List Arc → Bool
  | x :: xs, y :: ys => if Arc.beq x y then sameA xs ys else false
  | _, _ => true
theorem sameA_iff : ∀ (xs ys : List Arc), xs.length = ys.length → (sameA xs ys = decide (xs = ys))
  | [], [], _ => by simp [sameA]
  | x :: xs, y :: ys, h => by
    unfold sameA
    by_cases e : x = y
    · subst e
      rw [if_pos (Arc.beq_self x), sameA_iff xs ys (by simpa using h)]
      simp
    · rw [if_neg (fun h => e ((Arc.beq_iff x y).1 h)), decide_eq_false (fun h => e (List.cons.inj h).1)]
  | [], _ :: _, h => by simp at h
  | _ :: _, [], h => by simp at h
def inA (xs : List Arc) (a : Arc) : Bool := xs.any (fun x => Arc.beq x a)
theorem inA_iff (xs : List Arc) (a : Arc) : inA xs a = decide (a ∈ xs) := by
  unfold inA
  rw [Bool.eq_iff_iff, List.any_eq_true, decide_eq_true_iff]
  constructor
  · rintro ⟨x, hx, he⟩
    exact (Arc.beq_iff x a).1 he ▸ hx
  · intro h
    exact ⟨a, h, Arc.beq_self a⟩
/-- A mask's bit, as the document asks for it. -/
def rbit (mask : Int) (k : Int) : Bool := !(bits .and .i64 mask (2 ^ k.toNat) == 0)
theorem gbit_any (mask k : Int) (hk : 0 ≤ k ∧ k < 4) (w : World) : Calls Tryz.prog 20 #[.int .i64 mask, .int .i64 k] w (BoolNew (rbit mask k) w) := by
  have h4 : k = 0 ∨ k = 1 ∨ k = 2 ∨ k = 3 := by omega
  unfold rbit
  have hb : ∀ x : Int, (!(x == 0)) = (x != 0) := fun x => rfl
  rw [hb]
  rcases h4 with rfl | rfl | rfl | rfl
  · go_enter Tryz.func20, Tryz.ntmps20
    go_wp2
    go_ret
    exact ⟨rfl, by exact (Aft.one _)⟩
  · go_enter Tryz.func20, Tryz.ntmps20
    go_wp2
    go_ret
    exact ⟨rfl, by exact (Aft.one _)⟩
  · go_enter Tryz.func20, Tryz.ntmps20
    go_wp2
    go_ret
    exact ⟨rfl, by exact (Aft.one _)⟩
  · go_enter Tryz.func20, Tryz.ntmps20
    go_wp2
    go_ret
    exact ⟨rfl, by exact (Aft.one _)⟩
theorem getD_in {xs : List Arc} {k : Nat} (h : k < xs.length) : xs.getD k Arc.zero ∈ xs := by
  rw [List.getD_eq_getElem?_getD, List.getElem?_eq_getElem h]
  exact List.getElem_mem h
end Go.Proofs.YtimgdkafennohaaGreatDoor.Gr
namespace Go.Proofs.YtimgdkafennohaaGreatDoor.Gr
open Go.ChangeShapes Go.WideShapes Go.ChangeAt Go.RowKit Base F Rf
open Go.Proofs.YtimgdkafennohaaGreatDoor.Tx (Aft Aft.refl Aft.lay Aft.trans Aft.one Aft.cell Aft.drew BoolNew)
set_option maxRecDepth 100000 in
set_option maxHeartbeats 4000000 in
theorem gof_any {base : Nat} {v : Value} {xs : List Arc} (mask : Int) (w : World) (h : Arcs base w v xs) (hl : xs.length ≤ 100000) (hk : ∀ x ∈ xs, 0 ≤ x.kd ∧ x.kd < 4) : Calls Tryz.prog 9 #[v, .int .i64 mask] w (ArcsP (xs.filter fun x => rbit mask x.kd) w) := by
  obtain ⟨p, c, rfl, hlm, hc⟩ := h.open_
  have HT := Lib.hid hc
  have HK := Lib.hid hk
  clear hk
  have HS0 : Hid (RA w w (.slice none 0 0) ((xs.take 0).filter fun x => rbit mask x.kd)) := Lib.hid ⟨Aft.refl _, by simp; exact OwnArc.nil _ _⟩
  have HE : Hid (∀ v1 w', RA w w' v1 (xs.filter fun x => rbit mask x.kd) → ArcsP (xs.filter fun x => rbit mask x.kd) w (.returned v1) w') := Lib.hid fun v1 w' h1 => ⟨v1, rfl, h1⟩
  generalize ArcsP (xs.filter fun x => rbit mask x.kd) w = Post at HE ⊢
  clear h hc
  go_enter Tryz.func9, Tryz.ntmps9
  go_wp2_with fail
  go_loopw [5, 10] (fun s5 s10 wr => ∃ k : Nat, s10 = .int .i64 (k : Int) ∧ k ≤ xs.length ∧ Hid (RA w wr s5 ((xs.take k).filter fun x => rbit mask x.kd))) (fun _ s10 _ => xs.length - (intOf s10).toNat)
  case atStart => exact ⟨0, rfl, Nat.zero_le _, HS0⟩
  case round =>
    clear HS0
    obtain ⟨k, rfl, hk, HS⟩ := hrel
    by_cases hlt : k < xs.length
    · obtain ⟨g, o, rfl, _, hg, c0, c1, c2, c3⟩ := HT.out k hlt
      have c0 := HS.out.1.cell hg c0
      have c1 := HS.out.1.cell hg c1
      have c2 := HS.out.1.cell hg c2
      have c3 := HS.out.1.cell hg c3
      have hg := Nat.lt_of_lt_of_le hg HS.out.1.size
      have HBI : Hid (∀ W, Calls Tryz.prog 20 #[.int .i64 mask, .int .i64 (xs.getD k Arc.zero).kd] W (BoolNew (rbit mask (xs.getD k Arc.zero).kd) W)) := Lib.hid fun W => gbit_any mask _ (HK.out _ (getD_in hlt)) W
      have HSN : Hid ((xs.take (k + 1)).filter (fun x => rbit mask x.kd) = (xs.take k).filter (fun x => rbit mask x.kd) ++ (if rbit mask (xs.getD k Arc.zero).kd then [xs.getD k Arc.zero] else [])) := Lib.hid (by
        rw [take_snoc xs Arc.zero k hlt, List.filter_append, List.filter_cons, List.filter_nil])
      have HLN : Hid (((xs.take k).filter fun x => rbit mask x.kd).length ≤ 100000) := Lib.hid (Nat.le_trans (List.length_filter_le _ _) (by rw [List.length_take]; omega))
      have hkI : (k : Int) < (xs.length : Int) := by omega
      generalize xs.getD k Arc.zero = x at c0 c1 c2 c3 HSN HBI
      generalize (xs.take k).filter (fun x => rbit mask x.kd) = zs at HS HSN HLN
      have HSL : Hid (∀ o, RA w (wr.alloc o) u5 zs) := Lib.hid fun o => HS.out.lay o
      obtain ⟨x0, x1, x2, x3⟩ := x
      simp only at c0 c1 c2 c3 HSN HBI
      clear HS HT
      have HBW := Lib.hid (HBI.out (wr.alloc (.cells #[.int .i64 x0, .int .i64 x1, .int .i64 x2, .int .i64 x3] 28)))
      generalize rbit mask x2 = q at HSN HBW
      have hbx : ∀ W, Aft (wr.alloc (.cells #[.int .i64 x0, .int .i64 x1, .int .i64 x2, .int .i64 x3] 28)) W → W.heap[wr.heap.size]? = some (.cells #[.int .i64 x0, .int .i64 x1, .int .i64 x2, .int .i64 x3] 28) := fun W hW => (hW.block _ (by simp)).trans (heap_alloc_at _ _ _ rfl)
      have HBX := Lib.hid hbx
      clear HBI hbx
      go_wp2_with fail
      refine HBW.out.mono ?_
      rintro e w4 ⟨rfl, ha⟩
      have HRW : Hid (RA w w4 u5 zs) := Lib.hid ((HSL.out _).aft ha)
      obtain ⟨d0, d1, d2, d3⟩ := cellsA (b := ⟨x0, x1, x2, x3⟩) (HBX.out w4 ha)
      clear ha HSL HBX HBW c0 c1 c2 c3 hg
      cases q with
      | true =>
        have HN2 : Hid ((xs.take (k + 1)).filter (fun x => rbit mask x.kd) = zs ++ [⟨x0, x1, x2, x3⟩]) := Lib.hid (by rw [HSN.out]; rfl)
        clear HSN
        go_wp2_with (at_builtin; refine append_arcs rfl (.tmp 18) (.tmp 20) rfl ((HRW.out.lay _)).1.size ((HRW.out.lay _)).2 rfl (arc_at ⟨x0, x1, x2, x3⟩ (heap_alloc_at _ _ _ (by simp))) rfl (by have := HLN.out; simp only [List.length_cons, List.length_nil]; omega) ?_; intro v8 w8 h8 hg8 _; have HR : Hid (RA w w8 v8 ((xs.take (k + 1)).filter fun x => rbit mask x.kd)) := Lib.hid (by rw [HN2.out]; exact ((HRW.out.lay _)).app h8 hg8); clear h8 hg8)
        go_roundw
        case rel => exact ⟨k + 1, by go_num, hlt, HR⟩
        case measure => simp [intOf]; omega
      | false =>
        have HN2 : Hid (RA w w4 u5 ((xs.take (k + 1)).filter fun x => rbit mask x.kd)) := Lib.hid (by rw [HSN.out, if_neg (by simp), List.append_nil]; exact HRW.out)
        clear HSN
        go_wp2_with fail
        go_roundw
        case rel => exact ⟨k + 1, by go_num, hlt, HN2⟩
        case measure => simp [intOf]; omega
    · have hke : k = xs.length := by omega
      subst hke
      have HR : Hid (RA w wr u5 (xs.filter fun x => rbit mask x.kd)) := Lib.hid (by have := HS.out; rw [List.take_length] at this; exact this)
      clear HS HT hlt hk
      go_wp2_with fail
      exact HE.out _ _ HR.out
end Go.Proofs.YtimgdkafennohaaGreatDoor.Gr
