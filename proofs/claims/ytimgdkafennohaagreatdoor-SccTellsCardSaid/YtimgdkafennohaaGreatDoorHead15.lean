/-
  Contracts of small functions, several texts laid into one. Not a statement of the seat.
-/
import Derived.Test.YtimgdkafennohaaGreatDoorHead11
import Derived.Test.YtimgdkafennohaaGreatDoorHead13
import Derived.Test.YtimgdkafennohaaGreatDoorFrame
import Derived.RegionTactic
import Derived.BigRegion
namespace Go.Proofs.YtimgdkafennohaaGreatDoor.Ln
open Go.ChangeShapes Go.WideShapes Go.ChangeAt Go.RowKit Base Ro F
def flatK (ks : List Lk) : List Value := ks.flatMap Lk.vals
theorem flatK_len (ks : List Lk) : (flatK ks).length = ks.length * 6 := by
  unfold flatK
  induction ks with
  | nil => rfl
  | cons x l ih => rw [List.flatMap_cons, List.length_append, ih, List.length_cons]; simp [Lk.vals]; omega
theorem flatK_get : ∀ (ks : List Lk) (k j : Nat), k < ks.length → j < 6 → (flatK ks)[k * 6 + j]? = (Lk.vals (ks.getD k Lk.zero))[j]?
  | [], _, _, h, _ => by simp at h
  | x :: l, 0, j, _, hj => by
    unfold flatK
    rw [List.flatMap_cons, List.getElem?_append_left (by simp [Lk.vals]; omega)]
    simp
  | x :: l, k + 1, j, h, hj => by
    unfold flatK
    rw [List.flatMap_cons, List.getElem?_append_right (by simp [Lk.vals]; omega)]
    have := flatK_get l k j (by simpa using h) hj
    unfold flatK at this
    rw [show (k + 1) * 6 + j - (Lk.vals x).length = k * 6 + j by simp [Lk.vals]; omega, this]
    simp
theorem oneK (ks : List Lk) : ∀ u ∈ flatK ks, u.oneCell' = true := by
  intro u hu
  unfold flatK at hu
  rw [List.mem_flatMap] at hu
  obtain ⟨x, _, hx⟩ := hu
  simp only [Lk.vals, List.mem_cons, List.not_mem_nil, or_false] at hx
  rcases hx with rfl | rfl | rfl | rfl | rfl | rfl <;> rfl
/-- A slice of links of the call's own. -/
def OwnK (B : Nat) (w : World) (V : Value) (ks : List Lk) : Prop := w.ownsRow B 96 6 V ks.length (flatK ks)
theorem OwnK.lks {B : Nat} {w : World} {p : Option Addr} {n c : Nat} {ks : List Lk} (h : OwnK B w (.slice p n c) ks) : LksAt w p ks := by
  intro k hk
  rcases h.2 with ⟨h1, h2⟩ | ⟨g, cap, cur, h1, _, h3, _⟩
  · omega
  · injection h1 with h1 h4 h5
    subst h1
    have hc := World.ownsRow.cells h (g := g) rfl
    have key : ∀ j, j < 6 → w.cell? ⟨g, 0 + k * 6 + j, none⟩ = (Lk.vals (ks.getD k Lk.zero))[j]? := fun j hj => by
      have hv : (Lk.vals (ks.getD k Lk.zero))[j]? = some ((Lk.vals (ks.getD k Lk.zero))[j]'(by simpa [Lk.vals] using hj)) := List.getElem?_eq_getElem _
      have := hc (k * 6 + j) _ ((flatK_get ks k j hk hj).trans hv)
      rw [add_plain] at this
      rw [hv, Nat.add_assoc]
      exact this
    exact ⟨g, 0, rfl, heap_lt h3, key 0 (by omega), key 1 (by omega), key 2 (by omega), key 3 (by omega), key 4 (by omega), key 5 (by omega)⟩
/-- A cell of a row of the call's own is stored into. -/
theorem own_set {w : World} {B g n m cap size : Nat} {e : TypeId} {xs : List Value} (h : w.ownsRow B e size (.slice (some ⟨g, 0, none⟩) n cap) m xs) (j : Nat) (v : Value) : (w.setCell ⟨g, j, none⟩ v).ownsRow B e size (.slice (some ⟨g, 0, none⟩) n cap) m (xs.set j v) := by
  refine ⟨by rw [List.length_set]; exact h.1, ?_⟩
  rcases h.2 with ⟨h1, _⟩ | ⟨g', c', cur, h1, h2, h3, h4, h5, h6, h7⟩
  · cases h1
  · injection h1 with h1 h8 h9; injection h1 with h1; injection h1 with h1
    subst h1
    refine .inr ⟨g, c', cur.setIfInBounds j v, by rw [h8, h9], h2, ?_, h4, h5, by simpa using h6, ?_⟩
    · simp only [World.setCell, Array.getElem?_modify, if_true, h3, Option.map_some]
      rfl
    · rw [← h7, Array.toList_setIfInBounds, List.take_set]
theorem flatK_set : ∀ (ks : List Lk) (r j : Nat) (x : Lk) (v : Value), r < ks.length → j < 6 → Lk.vals x = (Lk.vals (ks.getD r Lk.zero)).set j v → flatK (ks.set r x) = (flatK ks).set (r * 6 + j) v
  | [], _, _, _, _, h, _, _ => by simp at h
  | y :: l, 0, j, x, v, _, hj, hx => by
    unfold flatK
    rw [List.set_cons_zero, List.flatMap_cons, List.flatMap_cons, hx, List.getD_cons_zero, List.set_append_left _ _ (by simp [Lk.vals]; omega)]
    simp
  | y :: l, r + 1, j, x, v, h, hj, hx => by
    have := flatK_set l r j x v (by simpa using h) hj (by simpa using hx)
    unfold flatK at this ⊢
    rw [List.set_cons_succ, List.flatMap_cons, List.flatMap_cons, this, List.set_append_right _ _ (by simp [Lk.vals]; omega), show (r + 1) * 6 + j - (Lk.vals y).length = r * 6 + j by simp [Lk.vals]; omega]
/-- The count of a kind. -/
def cntK (x : Lk) : Nat → Int
  | 0 => x.c0
  | 1 => x.c1
  | 2 => x.c2
  | _ => x.c3
def setcK (x : Lk) (k : Nat) (c : Int) : Lk := match k with
  | 0 => { x with c0 := c }
  | 1 => { x with c1 := c }
  | 2 => { x with c2 := c }
  | _ => { x with c3 := c }
def setkK (x : Lk) (s : Int) : Lk := { x with ks := s }
theorem vals_setc (x : Lk) (k : Nat) (hk : k < 4) (c : Int) : Lk.vals (setcK x k c) = (Lk.vals x).set (2 + k) (.int .i32 c) := by
  match k, hk with
  | 0, _ => rfl
  | 1, _ => rfl
  | 2, _ => rfl
  | 3, _ => rfl
theorem vals_setk (x : Lk) (s : Int) : Lk.vals (setkK x s) = (Lk.vals x).set 1 (.int .i16 s) := rfl
theorem vals_cnt (x : Lk) (k : Nat) (hk : k < 4) : (Lk.vals x)[2 + k]? = some (.int .i32 (cntK x k)) := by
  match k, hk with
  | 0, _ => rfl
  | 1, _ => rfl
  | 2, _ => rfl
  | 3, _ => rfl
end Go.Proofs.YtimgdkafennohaaGreatDoor.Ln
namespace Go.Proofs.YtimgdkafennohaaGreatDoor.Ln
open Go.ChangeShapes Go.WideShapes Go.ChangeAt Go.RowKit Base Ro F
theorem own_blk {w w' : World} {B g n cap size : Nat} {e : TypeId} {m : Nat} {vs : List Value} (hr : w.ownsRow B e size (.slice (some ⟨g, 0, none⟩) n cap) m vs) (h : w'.heap[g]? = w.heap[g]?) : w'.ownsRow B e size (.slice (some ⟨g, 0, none⟩) n cap) m vs := by
  refine ⟨hr.1, ?_⟩
  rcases hr.2 with ⟨h4, _⟩ | ⟨g', C', cur, h4, h2, h3, h5⟩
  · cases h4
  · injection h4 with h4 h6 h7; injection h4 with h4; injection h4 with h4
    subst h4
    exact .inr ⟨g, C', cur, by rw [h6, h7], h2, h.trans h3, h5⟩
/-- Links of few nodes, in bounds. -/
def GoodK (ks : List Lk) : Prop := UpK ks ∧ ks.length ≤ 5000 ∧ ∀ j, j < ks.length → -32768 ≤ (ks.getD j Lk.zero).nd ∧ (ks.getD j Lk.zero).nd ≤ 32767
set_option maxHeartbeats 4000000 in
set_option maxRecDepth 100000 in
theorem chg_up {B nb i g n cap r k : Nat} {ks : List Lk} {node by_ c c' s s1 s2 bit : Int} (w : World) (hl : n = ks.length) (hV : w.cell? ⟨nb, i, none⟩ = some (.slice (some ⟨g, 0, none⟩) n cap)) (hnb : nb < w.heap.size) (ho : OwnK B w (.slice (some ⟨g, 0, none⟩) n cap) ks) (hg : GoodK ks) (hr : Fst (geK ks node) ks.length r) (hrl : r < ks.length) (hrn : (ks.getD r Lk.zero).nd = node)
    (hk : k < 4) (hc : cntK (ks.getD r Lk.zero) k = c) (hs : (ks.getD r Lk.zero).ks = s) (hby : -1 ≤ by_ ∧ by_ ≤ 1) (hcb : 0 ≤ c ∧ c ≤ 1000000) (hc' : c' = c + by_) (hpos : 0 < c') (hbit : IntKind.i16.wrap (2 ^ k) = bit) (h1 : bits .andNot .i16 s bit = s1) (h2 : bits .or .i16 s1 bit = s2) (hz : (s2 == 0) = false) :
    Calls Tryz.prog 38 #[.pointer (some ⟨nb, i, none⟩), .int .i64 node, .int .i64 (k : Int), .int .i64 by_] w fun e w' => e = .returned (.tuple #[]) ∧ OwnK B w' (.slice (some ⟨g, 0, none⟩) n cap) (ks.set r (setkK (setcK (ks.getD r Lk.zero) k c') s2)) ∧ Fr (fun h => h = g) w w' := by
  have HBS := Lib.hid (bsearch_k (some ⟨g, 0, none⟩) cap ks node r w (by have := hg.2.1; omega) ho.lks hg.2.2 hg.1 hr)
  rw [decide_eq_true ⟨hrl, hrn⟩, ← hl] at HBS
  have hgw : g < w.heap.size := by obtain ⟨g', o, h, h', _⟩ := ho.lks r hrl; injection h with h; injection h with h; subst h; exact h'
  have hcell : ∀ j, j < 6 → w.cell? ⟨g, r * 6 + j, none⟩ = (Lk.vals (ks.getD r Lk.zero))[j]? ∧ w.frozen? ⟨g, r * 6 + j, none⟩ = false := fun j hj => by
    have hv : (Lk.vals (ks.getD r Lk.zero))[j]? = some ((Lk.vals (ks.getD r Lk.zero))[j]'(by simpa [Lk.vals] using hj)) := List.getElem?_eq_getElem _
    have := World.ownsRow.cells ho (g := g) rfl (r * 6 + j) _ ((flatK_get ks r j hrl hj).trans hv)
    rw [add_plain, Nat.zero_add] at this
    refine ⟨by rw [hv]; exact this, ?_⟩
    rcases ho.2 with ⟨h4, _⟩ | ⟨g', C', cur, h4, _, h3, _⟩
    · cases h4
    · injection h4 with h4; injection h4 with h4; injection h4 with h4; subst h4; simp [World.frozen?, h3]
  have hcc := hcell (2 + k) (by omega)
  rw [vals_cnt _ k hk, hc, ← Nat.add_assoc] at hcc
  have hcs : w.cell? ⟨g, r * 6 + 1, none⟩ = some (.int .i16 s) ∧ w.frozen? ⟨g, r * 6 + 1, none⟩ = false := by
    have := hcell 1 (by omega)
    rw [← hs]
    exact this
  have hrn2 : r < n := by omega
  have hn5 : n ≤ 5000 := by rw [hl]; exact hg.2.1
  have hwc : IntKind.i32.wrap (c + by_) = c' := by rw [hc', IntKind.wrap_i32]; omega
  have hwb : IntKind.i32.wrap by_ = by_ := by rw [IntKind.wrap_i32]; omega
  have hkI : (k : Int) < 4 := by omega
  have HFIN : Hid (∀ w1, Below w.heap.size w w1 → ∀ W, W.heap = (((w1.setCell ⟨g, r * 6 + 2 + k, none⟩ (.int .i32 c')).setCell ⟨g, r * 6 + 1, none⟩ (.int .i16 s1)).setCell ⟨g, r * 6 + 1, none⟩ (.int .i16 s2)).heap → W.os = w1.os → W.tape = w1.tape → W.output = w1.output →
      OwnK B W (.slice (some ⟨g, 0, none⟩) n cap) (ks.set r (setkK (setcK (ks.getD r Lk.zero) k c') s2)) ∧ Fr (fun h => h = g) w W) := Lib.hid fun w1 hb W hW q1 q2 q3 => by
    have ho1 : OwnK B w1 (.slice (some ⟨g, 0, none⟩) n cap) ks := own_blk ho (hb.block g hgw)
    have hlen := flatK_len ks
    have hv1 : flatK (ks.set r (setcK (ks.getD r Lk.zero) k c')) = (flatK ks).set (r * 6 + 2 + k) (.int .i32 c') := by
      rw [Nat.add_assoc]
      exact flatK_set ks r (2 + k) _ _ hrl (by omega) (vals_setc _ k hk c')
    have hgd : ∀ y : Lk, (ks.set r y).getD r Lk.zero = y := fun y => by simp [List.getD_eq_getElem?_getD, hrl]
    have hss : ∀ y z : Lk, (ks.set r y).set r z = ks.set r z := fun y z => by simp
    have hv2 : ∀ s3 : Int, flatK (ks.set r (setkK (setcK (ks.getD r Lk.zero) k c') s3)) = ((flatK ks).set (r * 6 + 2 + k) (.int .i32 c')).set (r * 6 + 1) (.int .i16 s3) := fun s3 => by
      have := flatK_set (ks.set r (setcK (ks.getD r Lk.zero) k c')) r 1 (setkK (setcK (ks.getD r Lk.zero) k c') s3) (.int .i16 s3) (by simpa using hrl) (by omega) (by rw [hgd]; rfl)
      rw [hss, hv1] at this
      exact this
    have h3 := own_set (own_set (own_set ho1 (r * 6 + 2 + k) (.int .i32 c')) (r * 6 + 1) (.int .i16 s1)) (r * 6 + 1) (.int .i16 s2)
    rw [List.set_set, ← hv2] at h3
    refine ⟨own_blk (w := ((w1.setCell ⟨g, r * 6 + 2 + k, none⟩ (.int .i32 c')).setCell ⟨g, r * 6 + 1, none⟩ (.int .i16 s1)).setCell ⟨g, r * 6 + 1, none⟩ (.int .i16 s2)) ?_ (by rw [hW]), ⟨q1.trans hb.os, q2.trans hb.tape, q3.trans hb.output, ?_, fun h hlt hn => ?_⟩⟩
    · rw [List.length_set]
      exact h3
    · rw [hW]; simp only [World.setCell, Array.size_modify]; exact hb.size
    · rw [hW, Below.heap_setCell _ _ _ _ hn, Below.heap_setCell _ _ _ _ hn, Below.heap_setCell _ _ _ _ hn]
      exact hb.block h hlt
  clear ho hg hr hrl hrn hc hs hcell hl hby hc' hcb
  obtain ⟨e0, e1⟩ := hcc
  obtain ⟨e2, e3⟩ := hcs
  go_enter Tryz.func38, Tryz.ntmps38
  go_wp2_with fail
  refine (HBS.out).mono ?_
  rintro e w1 ⟨rfl, hb⟩
  have HB1 := Lib.hid hb
  have b0 := (hb.cell (p := ⟨nb, i, none⟩) hnb).trans hV
  have b1 := (hb.cell (p := ⟨g, _, none⟩) hgw).trans e0
  have b2 := (hb.cell (p := ⟨g, _, none⟩) hgw).trans e2
  have b3 := (World.frozen?_of_block (a := ⟨g, r * 6 + 2 + k, none⟩) (hb.block g hgw)).trans e1
  have b4 := (World.frozen?_of_block (a := ⟨g, r * 6 + 1, none⟩) (hb.block g hgw)).trans e3
  clear hb e0 e1 e2 e3 hV HBS
  go_wp2_with fail
  go_region
  go_wp2_with fail
  have hne1 : ¬ (r * 6 + 2 + k = r * 6 + 1) := by omega
  have hne2 : ¬ (r * 6 + 1 = r * 6 + 2 + k) := by omega
  go_region
  go_wp2_with fail
  have hx0 : ((w1.setCell ⟨g, r * 6 + 2 + k, none⟩ (.int .i32 c')).setCell ⟨g, r * 6 + 1, none⟩ (.int .i16 s1)).cell? ⟨g, r * 6 + 1, none⟩ = some (.int .i16 s1) := World.cell?_setCell_same _ _ _ ((World.cell?_setCell_other _ _ _ _ (by first | (simp; done) | (simp; omega))).trans b2)
  have hx : (((w1.setCell ⟨g, r * 6 + 2 + k, none⟩ (.int .i32 c')).setCell ⟨g, r * 6 + 1, none⟩ (.int .i16 s1)).setCell ⟨g, r * 6 + 1, none⟩ (.int .i16 s2)).cell? ⟨g, r * 6 + 1, none⟩ = some (.int .i16 s2) := World.cell?_setCell_same _ _ _ hx0
  go_region
  go_wp2
  have hf := HFIN.out w1 HB1.out
  exact bodyPost_end (v := .tuple #[]) (results_none rfl _ _ _) rfl ⟨rfl, hf _ rfl rfl rfl rfl⟩
end Go.Proofs.YtimgdkafennohaaGreatDoor.Ln
namespace Go.Proofs.YtimgdkafennohaaGreatDoor.Ln
open Go.ChangeShapes Go.WideShapes Go.ChangeAt Go.RowKit Base Ro F
set_option maxHeartbeats 4000000 in
set_option maxRecDepth 100000 in
theorem chg_down {B nb i g n cap r k : Nat} {ks : List Lk} {node by_ c c' s s1 bit : Int} (w : World) (hl : n = ks.length) (hV : w.cell? ⟨nb, i, none⟩ = some (.slice (some ⟨g, 0, none⟩) n cap)) (hnb : nb < w.heap.size) (ho : OwnK B w (.slice (some ⟨g, 0, none⟩) n cap) ks) (hg : GoodK ks) (hr : Fst (geK ks node) ks.length r) (hrl : r < ks.length) (hrn : (ks.getD r Lk.zero).nd = node)
    (hk : k < 4) (hc : cntK (ks.getD r Lk.zero) k = c) (hs : (ks.getD r Lk.zero).ks = s) (hby : -1 ≤ by_ ∧ by_ ≤ 1) (hcb : 0 ≤ c ∧ c ≤ 1000000) (hc' : c' = c + by_) (hpos : ¬ 0 < c') (hbit : IntKind.i16.wrap (2 ^ k) = bit) (h1 : bits .andNot .i16 s bit = s1) (hz : (s1 == 0) = false) :
    Calls Tryz.prog 38 #[.pointer (some ⟨nb, i, none⟩), .int .i64 node, .int .i64 (k : Int), .int .i64 by_] w fun e w' => e = .returned (.tuple #[]) ∧ OwnK B w' (.slice (some ⟨g, 0, none⟩) n cap) (ks.set r (setkK (setcK (ks.getD r Lk.zero) k c') s1)) ∧ Fr (fun h => h = g) w w' := by
  have HBS := Lib.hid (bsearch_k (some ⟨g, 0, none⟩) cap ks node r w (by have := hg.2.1; omega) ho.lks hg.2.2 hg.1 hr)
  rw [decide_eq_true ⟨hrl, hrn⟩, ← hl] at HBS
  have hgw : g < w.heap.size := by obtain ⟨g', o, h, h', _⟩ := ho.lks r hrl; injection h with h; injection h with h; subst h; exact h'
  have hcell : ∀ j, j < 6 → w.cell? ⟨g, r * 6 + j, none⟩ = (Lk.vals (ks.getD r Lk.zero))[j]? ∧ w.frozen? ⟨g, r * 6 + j, none⟩ = false := fun j hj => by
    have hv : (Lk.vals (ks.getD r Lk.zero))[j]? = some ((Lk.vals (ks.getD r Lk.zero))[j]'(by simpa [Lk.vals] using hj)) := List.getElem?_eq_getElem _
    have := World.ownsRow.cells ho (g := g) rfl (r * 6 + j) _ ((flatK_get ks r j hrl hj).trans hv)
    rw [add_plain, Nat.zero_add] at this
    refine ⟨by rw [hv]; exact this, ?_⟩
    rcases ho.2 with ⟨h4, _⟩ | ⟨g', C', cur, h4, _, h3, _⟩
    · cases h4
    · injection h4 with h4; injection h4 with h4; injection h4 with h4; subst h4; simp [World.frozen?, h3]
  have hcc := hcell (2 + k) (by omega)
  rw [vals_cnt _ k hk, hc, ← Nat.add_assoc] at hcc
  have hcs : w.cell? ⟨g, r * 6 + 1, none⟩ = some (.int .i16 s) ∧ w.frozen? ⟨g, r * 6 + 1, none⟩ = false := by
    have := hcell 1 (by omega)
    rw [← hs]
    exact this
  have hrn2 : r < n := by omega
  have hn5 : n ≤ 5000 := by rw [hl]; exact hg.2.1
  have hwc : IntKind.i32.wrap (c + by_) = c' := by rw [hc', IntKind.wrap_i32]; omega
  have hwb : IntKind.i32.wrap by_ = by_ := by rw [IntKind.wrap_i32]; omega
  have hkI : (k : Int) < 4 := by omega
  have HFIN : Hid (∀ w1, Below w.heap.size w w1 → ∀ W, W.heap = ((w1.setCell ⟨g, r * 6 + 2 + k, none⟩ (.int .i32 c')).setCell ⟨g, r * 6 + 1, none⟩ (.int .i16 s1)).heap → W.os = w1.os → W.tape = w1.tape → W.output = w1.output →
      OwnK B W (.slice (some ⟨g, 0, none⟩) n cap) (ks.set r (setkK (setcK (ks.getD r Lk.zero) k c') s1)) ∧ Fr (fun h => h = g) w W) := Lib.hid fun w1 hb W hW q1 q2 q3 => by
    have ho1 : OwnK B w1 (.slice (some ⟨g, 0, none⟩) n cap) ks := own_blk ho (hb.block g hgw)
    have hlen := flatK_len ks
    have hv1 : flatK (ks.set r (setcK (ks.getD r Lk.zero) k c')) = (flatK ks).set (r * 6 + 2 + k) (.int .i32 c') := by
      rw [Nat.add_assoc]
      exact flatK_set ks r (2 + k) _ _ hrl (by omega) (vals_setc _ k hk c')
    have hgd : ∀ y : Lk, (ks.set r y).getD r Lk.zero = y := fun y => by simp [List.getD_eq_getElem?_getD, hrl]
    have hss : ∀ y z : Lk, (ks.set r y).set r z = ks.set r z := fun y z => by simp
    have hv2 : ∀ s3 : Int, flatK (ks.set r (setkK (setcK (ks.getD r Lk.zero) k c') s3)) = ((flatK ks).set (r * 6 + 2 + k) (.int .i32 c')).set (r * 6 + 1) (.int .i16 s3) := fun s3 => by
      have := flatK_set (ks.set r (setcK (ks.getD r Lk.zero) k c')) r 1 (setkK (setcK (ks.getD r Lk.zero) k c') s3) (.int .i16 s3) (by simpa using hrl) (by omega) (by rw [hgd]; rfl)
      rw [hss, hv1] at this
      exact this
    have h3 := own_set (own_set ho1 (r * 6 + 2 + k) (.int .i32 c')) (r * 6 + 1) (.int .i16 s1)
    rw [← hv2] at h3
    refine ⟨own_blk (w := (w1.setCell ⟨g, r * 6 + 2 + k, none⟩ (.int .i32 c')).setCell ⟨g, r * 6 + 1, none⟩ (.int .i16 s1)) ?_ (by rw [hW]), ⟨q1.trans hb.os, q2.trans hb.tape, q3.trans hb.output, ?_, fun h hlt hn => ?_⟩⟩
    · rw [List.length_set]
      exact h3
    · rw [hW]; simp only [World.setCell, Array.size_modify]; exact hb.size
    · rw [hW, Below.heap_setCell _ _ _ _ hn, Below.heap_setCell _ _ _ _ hn]
      exact hb.block h hlt
  clear ho hg hr hrl hrn hc hs hcell hl hby hc' hcb
  obtain ⟨e0, e1⟩ := hcc
  obtain ⟨e2, e3⟩ := hcs
  go_enter Tryz.func38, Tryz.ntmps38
  go_wp2_with fail
  refine (HBS.out).mono ?_
  rintro e w1 ⟨rfl, hb⟩
  have HB1 := Lib.hid hb
  have b0 := (hb.cell (p := ⟨nb, i, none⟩) hnb).trans hV
  have b1 := (hb.cell (p := ⟨g, _, none⟩) hgw).trans e0
  have b2 := (hb.cell (p := ⟨g, _, none⟩) hgw).trans e2
  have b3 := (World.frozen?_of_block (a := ⟨g, r * 6 + 2 + k, none⟩) (hb.block g hgw)).trans e1
  have b4 := (World.frozen?_of_block (a := ⟨g, r * 6 + 1, none⟩) (hb.block g hgw)).trans e3
  clear hb e0 e1 e2 e3 hV HBS
  go_wp2_with fail
  go_region
  go_wp2_with fail
  have hne1 : ¬ (r * 6 + 2 + k = r * 6 + 1) := by omega
  have hne2 : ¬ (r * 6 + 1 = r * 6 + 2 + k) := by omega
  have hx : ((w1.setCell ⟨g, r * 6 + 2 + k, none⟩ (.int .i32 c')).setCell ⟨g, r * 6 + 1, none⟩ (.int .i16 s1)).cell? ⟨g, r * 6 + 1, none⟩ = some (.int .i16 s1) := World.cell?_setCell_same _ _ _ ((World.cell?_setCell_other _ _ _ _ (by first | (simp; done) | (simp; omega))).trans b2)
  go_region
  go_wp2
  have hf := HFIN.out w1 HB1.out
  exact bodyPost_end (v := .tuple #[]) (results_none rfl _ _ _) rfl ⟨rfl, hf _ rfl rfl rfl rfl⟩
end Go.Proofs.YtimgdkafennohaaGreatDoor.Ln
namespace Go.Proofs.YtimgdkafennohaaGreatDoor.Ln
open Go.ChangeShapes Go.WideShapes Go.ChangeAt Go.RowKit Base Ro F
def outK (ks : List Lk) (r : Nat) : List Lk := ks.take r ++ ks.drop (r + 1)
theorem outK_len {ks : List Lk} {r : Nat} (h : r < ks.length) : (outK ks r).length = ks.length - 1 := by
  simp [outK]; omega
theorem flatK_take : ∀ (ks : List Lk) (r : Nat), flatK (ks.take r) = (flatK ks).take (r * 6)
  | [], r => by simp [flatK]
  | x :: l, 0 => by simp [flatK]
  | x :: l, r + 1 => by
    have := flatK_take l r
    unfold flatK at this ⊢
    rw [List.take_succ_cons, List.flatMap_cons, List.flatMap_cons, this, show (r + 1) * 6 = (Lk.vals x).length + r * 6 by simp [Lk.vals]; omega, List.take_length_add_append]
theorem flatK_drop : ∀ (ks : List Lk) (r : Nat), flatK (ks.drop r) = (flatK ks).drop (r * 6)
  | [], r => by simp [flatK]
  | x :: l, 0 => by simp [flatK]
  | x :: l, r + 1 => by
    have := flatK_drop l r
    unfold flatK at this ⊢
    rw [List.drop_succ_cons, List.flatMap_cons, this, show (r + 1) * 6 = (Lk.vals x).length + r * 6 by simp [Lk.vals]; omega, List.drop_length_add_append]
theorem flatK_out (ks : List Lk) (r : Nat) : (flatK ks).take (r * 6) ++ (flatK ks).drop ((r + 1) * 6) = flatK (outK ks r) := by
  rw [← flatK_take, ← flatK_drop]
  simp [flatK, outK]
theorem outK_set (ks : List Lk) (r : Nat) (y : Lk) : outK (ks.set r y) r = outK ks r := by
  unfold outK
  rw [List.take_set_of_le (Nat.le_refl r), List.drop_set_of_lt (Nat.lt_succ_self r)]
/-- What a change leaves in the place of the links. -/
def ChgP (B nb i : Nat) (V : Value) (ks' : List Lk) (w : World) (e : Ending) (w' : World) : Prop :=
  e = .returned (.tuple #[]) ∧ ∃ V', OwnK B w' V' ks' ∧ (V'.ownBlock = V.ownBlock ∨ ∃ g', V'.ownBlock = some g' ∧ w.heap.size ≤ g') ∧ w'.heap[nb]? = (w.setCell ⟨nb, i, none⟩ V').heap[nb]? ∧ Fr (fun h => V.ownBlock = some h ∨ h = nb) w w'
set_option maxHeartbeats 4000000 in
set_option maxRecDepth 100000 in
theorem chg_out {B nb i g n cap r k : Nat} {ks : List Lk} {node by_ c c' s s1 bit : Int} (w : World) (hl : n = ks.length) (hV : w.cell? ⟨nb, i, none⟩ = some (.slice (some ⟨g, 0, none⟩) n cap)) (hnb : nb < w.heap.size) (ho : OwnK B w (.slice (some ⟨g, 0, none⟩) n cap) ks) (hg : GoodK ks) (hr : Fst (geK ks node) ks.length r) (hrl : r < ks.length) (hrn : (ks.getD r Lk.zero).nd = node)
    (hk : k < 4) (hc : cntK (ks.getD r Lk.zero) k = c) (hs : (ks.getD r Lk.zero).ks = s) (hby : -1 ≤ by_ ∧ by_ ≤ 1) (hcb : 0 ≤ c ∧ c ≤ 1000000) (hc' : c' = c + by_) (hpos : ¬ 0 < c') (hbit : IntKind.i16.wrap (2 ^ k) = bit) (h1 : bits .andNot .i16 s bit = s1) (hz : s1 = 0) (hnbg : nb ≠ g) (hfz : w.frozen? ⟨nb, i, none⟩ = false) :
    Calls Tryz.prog 38 #[.pointer (some ⟨nb, i, none⟩), .int .i64 node, .int .i64 (k : Int), .int .i64 by_] w (ChgP B nb i (.slice (some ⟨g, 0, none⟩) n cap) (outK ks r) w) := by
  subst hz
  have HBS := Lib.hid (bsearch_k (some ⟨g, 0, none⟩) cap ks node r w (by have := hg.2.1; omega) ho.lks hg.2.2 hg.1 hr)
  rw [decide_eq_true ⟨hrl, hrn⟩, ← hl] at HBS
  have hgw : g < w.heap.size := by obtain ⟨g', o, h, h', _⟩ := ho.lks r hrl; injection h with h; injection h with h; subst h; exact h'
  have hcell : ∀ j, j < 6 → w.cell? ⟨g, r * 6 + j, none⟩ = (Lk.vals (ks.getD r Lk.zero))[j]? ∧ w.frozen? ⟨g, r * 6 + j, none⟩ = false := fun j hj => by
    have hv : (Lk.vals (ks.getD r Lk.zero))[j]? = some ((Lk.vals (ks.getD r Lk.zero))[j]'(by simpa [Lk.vals] using hj)) := List.getElem?_eq_getElem _
    have := World.ownsRow.cells ho (g := g) rfl (r * 6 + j) _ ((flatK_get ks r j hrl hj).trans hv)
    rw [add_plain, Nat.zero_add] at this
    refine ⟨by rw [hv]; exact this, ?_⟩
    rcases ho.2 with ⟨h4, _⟩ | ⟨g', C', cur, h4, _, h3, _⟩
    · cases h4
    · injection h4 with h4; injection h4 with h4; injection h4 with h4; subst h4; simp [World.frozen?, h3]
  have hcc := hcell (2 + k) (by omega)
  rw [vals_cnt _ k hk, hc, ← Nat.add_assoc] at hcc
  have hcs : w.cell? ⟨g, r * 6 + 1, none⟩ = some (.int .i16 s) ∧ w.frozen? ⟨g, r * 6 + 1, none⟩ = false := by
    have := hcell 1 (by omega)
    rw [← hs]
    exact this
  have hrn2 : r < n := by omega
  have hn5 : n ≤ 5000 := by rw [hl]; exact hg.2.1
  have hwc : IntKind.i32.wrap (c + by_) = c' := by rw [hc', IntKind.wrap_i32]; omega
  have hwb : IntKind.i32.wrap by_ = by_ := by rw [IntKind.wrap_i32]; omega
  have hkI : (k : Int) < 4 := by omega
  have HFIN : Hid (∀ w1, Below w.heap.size w w1 → ∀ W, W.heap = ((w1.setCell ⟨g, r * 6 + 2 + k, none⟩ (.int .i32 c')).setCell ⟨g, r * 6 + 1, none⟩ (.int .i16 0)).heap → W.os = w1.os → W.tape = w1.tape → W.output = w1.output →
      Calls Tryz.prog 60 #[.slice (some ⟨g, 0, none⟩) n cap, .int .i64 r, .int .i64 ((r : Int) + 1)] W fun e w' =>
        ∃ n' cap', e = .returned (.slice (some ⟨g, 0, none⟩) n' cap') ∧ w'.cell? ⟨nb, i, none⟩ = some (.slice (some ⟨g, 0, none⟩) n cap) ∧ w'.frozen? ⟨nb, i, none⟩ = false ∧ ChgP B nb i (.slice (some ⟨g, 0, none⟩) n cap) (outK ks r) w (.returned (.tuple #[])) (w'.setCell ⟨nb, i, none⟩ (.slice (some ⟨g, 0, none⟩) n' cap'))) := Lib.hid fun w1 hb W hW q1 q2 q3 => by
    have ho1 : OwnK B w1 (.slice (some ⟨g, 0, none⟩) n cap) ks := own_blk ho (hb.block g hgw)
    have hlen := flatK_len ks
    have hv1 : flatK (ks.set r (setcK (ks.getD r Lk.zero) k c')) = (flatK ks).set (r * 6 + 2 + k) (.int .i32 c') := by
      rw [Nat.add_assoc]
      exact flatK_set ks r (2 + k) _ _ hrl (by omega) (vals_setc _ k hk c')
    have hgd : ∀ y : Lk, (ks.set r y).getD r Lk.zero = y := fun y => by simp [List.getD_eq_getElem?_getD, hrl]
    have hss : ∀ y z : Lk, (ks.set r y).set r z = ks.set r z := fun y z => by simp
    have hv2 : ∀ s3 : Int, flatK (ks.set r (setkK (setcK (ks.getD r Lk.zero) k c') s3)) = ((flatK ks).set (r * 6 + 2 + k) (.int .i32 c')).set (r * 6 + 1) (.int .i16 s3) := fun s3 => by
      have := flatK_set (ks.set r (setcK (ks.getD r Lk.zero) k c')) r 1 (setkK (setcK (ks.getD r Lk.zero) k c') s3) (.int .i16 s3) (by simpa using hrl) (by omega) (by rw [hgd]; rfl)
      rw [hss, hv1] at this
      exact this
    have h3 := own_set (own_set ho1 (r * 6 + 2 + k) (.int .i32 c')) (r * 6 + 1) (.int .i16 0)
    rw [← hv2] at h3
    have hoW : OwnK B W (.slice (some ⟨g, 0, none⟩) n cap) (ks.set r (setkK (setcK (ks.getD r Lk.zero) k c') 0)) := own_blk (w := (w1.setCell ⟨g, r * 6 + 2 + k, none⟩ (.int .i32 c')).setCell ⟨g, r * 6 + 1, none⟩ (.int .i16 0)) (by rw [List.length_set]; exact h3) (by rw [hW])
    have hfr : Fr (fun h => h = g) w W := by
      refine ⟨q1.trans hb.os, q2.trans hb.tape, q3.trans hb.output, ?_, fun h hlt hn => ?_⟩
      · rw [hW]; simp only [World.setCell, Array.size_modify]; exact hb.size
      · rw [hW, Below.heap_setCell _ _ _ _ hn, Below.heap_setCell _ _ _ _ hn]
        exact hb.block h hlt
    have hln : (ks.set r (setkK (setcK (ks.getD r Lk.zero) k c') 0)).length = n := by rw [List.length_set, hl]
    unfold OwnK at hoW
    rw [hln] at hoW
    refine (delK hoW r hrn2 (by omega) (oneK _)).mono ?_
    rintro e w' ⟨v', rfl, ho', hg', hat⟩
    rw [flatK_out, outK_set] at ho'
    have hf' : Fr (fun h => h = g) w w' := hfr.trans (Fr.of_grown (F := fun h => h = g) hg' (fun k hk => (Option.some.inj hk).symm)) (fun _ _ h => h)
    have hbk := hf'.block hnb hnbg
    rcases ho'.2 with ⟨rfl, h4⟩ | ⟨g', c2, cur, rfl, h5⟩
    · simp [Value.ownBlock] at hat
    · have : g' = g := by simpa [Value.ownBlock] using hat
      subst this
      refine ⟨n - 1, c2, rfl, ?_, ?_, rfl, .slice (some ⟨g', 0, none⟩) (n - 1) c2, ?_, .inl rfl, ?_, ?_⟩
      · simp only [World.cell?, hbk] at hV ⊢
        exact hV
      · simp only [World.frozen?, hbk] at hfz ⊢
        exact hfz
      · have := own_blk (w' := w'.setCell ⟨nb, i, none⟩ (.slice (some ⟨g', 0, none⟩) (n - 1) c2)) ho' (Below.heap_setCell _ _ _ _ (Ne.symm hnbg))
        unfold OwnK
        rw [outK_len hrl, ← hl]
        exact this
      · simp only [World.setCell, Array.getElem?_modify, if_true]
        rw [hbk]
      · refine ⟨hf'.1, hf'.2.1, hf'.2.2.1, ?_, fun h hlt hn => ?_⟩
        · simp only [World.setCell, Array.size_modify]; exact hf'.2.2.2.1
        · rw [Below.heap_setCell _ _ _ _ (fun e => hn (.inr e)), hf'.block hlt (fun e => hn (.inl (by rw [e]; rfl)))]
  clear ho hg hr hrl hrn hc hs hcell hl hby hc' hcb hfz
  generalize ChgP B nb i (.slice (some ⟨g, 0, none⟩) n cap) (outK ks r) w = Post at HFIN ⊢
  have hrx : IntKind.i64.wrap ((r : Int) + 1) = (r : Int) + 1 := by rw [IntKind.wrap_i64]; omega
  obtain ⟨e0, e1⟩ := hcc
  obtain ⟨e2, e3⟩ := hcs
  go_enter Tryz.func38, Tryz.ntmps38
  go_wp2_with fail
  refine (HBS.out).mono ?_
  rintro e w1 ⟨rfl, hb⟩
  have HB1 := Lib.hid hb
  have b0 := (hb.cell (p := ⟨nb, i, none⟩) hnb).trans hV
  have b1 := (hb.cell (p := ⟨g, _, none⟩) hgw).trans e0
  have b2 := (hb.cell (p := ⟨g, _, none⟩) hgw).trans e2
  have b3 := (World.frozen?_of_block (a := ⟨g, r * 6 + 2 + k, none⟩) (hb.block g hgw)).trans e1
  have b4 := (World.frozen?_of_block (a := ⟨g, r * 6 + 1, none⟩) (hb.block g hgw)).trans e3
  clear hb e0 e1 e2 e3 hV HBS
  go_wp2_with fail
  go_region
  go_wp2_with fail
  have hne1 : ¬ (r * 6 + 2 + k = r * 6 + 1) := by omega
  have hne2 : ¬ (r * 6 + 1 = r * 6 + 2 + k) := by omega
  have hx : ((w1.setCell ⟨g, r * 6 + 2 + k, none⟩ (.int .i32 c')).setCell ⟨g, r * 6 + 1, none⟩ (.int .i16 0)).cell? ⟨g, r * 6 + 1, none⟩ = some (.int .i16 0) := World.cell?_setCell_same _ _ _ ((World.cell?_setCell_other _ _ _ _ (by first | (simp; done) | (simp; omega))).trans b2)
  go_region
  go_wp2_with fail
  have hf := HFIN.out w1 HB1.out
  refine Calls.mono (hf _ rfl rfl rfl rfl) ?_
  rintro e w4 ⟨n', cap', rfl, z0, z1, z2⟩
  have Z2 := Lib.hid z2
  clear z2
  go_wp2
  exact bodyPost_end (v := .tuple #[]) (results_none rfl _ _ _) rfl Z2.out
end Go.Proofs.YtimgdkafennohaaGreatDoor.Ln
namespace Go.Proofs.YtimgdkafennohaaGreatDoor.Ln
open Go.ChangeShapes Go.WideShapes Go.ChangeAt Go.RowKit Base Ro F
/-- A link put in. -/
def inK (ks : List Lk) (r : Nat) (y : Lk) : List Lk := ks.take r ++ y :: ks.drop r
theorem inK_len {ks : List Lk} {r : Nat} (y : Lk) (h : r ≤ ks.length) : (inK ks r y).length = ks.length + 1 := by
  simp [inK]; omega
theorem flatK_in (ks : List Lk) (r : Nat) (y : Lk) : (flatK ks).take (r * 6) ++ Lk.vals y ++ (flatK ks).drop (r * 6) = flatK (inK ks r y) := by
  rw [← flatK_take, ← flatK_drop]
  simp [flatK, inK]
theorem inK_set {ks : List Lk} {r : Nat} (y z : Lk) (h : r ≤ ks.length) : (inK ks r y).set r z = inK ks r z := by
  unfold inK
  rw [List.set_append_right _ _ (by simp; omega)]
  simp [Nat.min_eq_left h]
theorem inK_get {ks : List Lk} {r : Nat} (y : Lk) (h : r ≤ ks.length) : (inK ks r y).getD r Lk.zero = y := by
  simp [inK, List.getD_eq_getElem?_getD, Nat.min_eq_left h]
def newK (node : Int) : Lk := ⟨node, 0, 0, 0, 0, 0⟩
theorem own_any {w w' : World} {B size n : Nat} {e : TypeId} {v : Value} {xs : List Value} (h : w.ownsRow B e size v n xs) (hk : ∀ k, v.ownBlock = some k → w'.heap[k]? = w.heap[k]?) : w'.ownsRow B e size v n xs := by
  refine ⟨h.1, ?_⟩
  rcases h.2 with h4 | ⟨g, C', cur, rfl, h2, h3, h5⟩
  · exact .inl h4
  · exact .inr ⟨g, C', cur, rfl, h2, (hk g rfl).trans h3, h5⟩
set_option maxHeartbeats 4000000 in
set_option maxRecDepth 100000 in
theorem chg_new {B nb i n cap r k : Nat} {p : Option Addr} {ks : List Lk} {node by_ c c' s s1 s2 bit : Int} (w : World) (hl : n = ks.length) (hV : w.cell? ⟨nb, i, none⟩ = some (.slice p n cap)) (hnb : nb < w.heap.size) (ho : OwnK B w (.slice p n cap) ks) (hg : GoodK ks) (hr : Fst (geK ks node) ks.length r) (hrn : ¬ (r < ks.length ∧ (ks.getD r Lk.zero).nd = node)) (hrl : r ≤ ks.length)
    (hk : k < 4) (hc : c = 0) (hs : s = 0) (hby : by_ = 1) (hc' : c' = 1) (hbit : IntKind.i16.wrap (2 ^ k) = bit) (h1 : bits .andNot .i16 s bit = s1) (h2 : bits .or .i16 s1 bit = s2) (hz : (s2 == 0) = false) (hnbg : (Value.slice p n cap).ownBlock ≠ some nb) (hfz : w.frozen? ⟨nb, i, none⟩ = false) (hB : B ≤ w.heap.size) (hnd : 0 ≤ node ∧ node ≤ 32767) :
    Calls Tryz.prog 38 #[.pointer (some ⟨nb, i, none⟩), .int .i64 node, .int .i64 (k : Int), .int .i64 by_] w (ChgP B nb i (.slice p n cap) (inK ks r (setkK (setcK (newK node) k c') s2)) w) := by
  have HBS := Lib.hid (bsearch_k p cap ks node r w (by have := hg.2.1; omega) ho.lks hg.2.2 hg.1 hr)
  rw [decide_eq_false hrn, ← hl] at HBS
  have hnw : IntKind.i16.wrap node = node := by simp [IntKind.wrap, IntKind.bits, IntKind.signed]; omega
  have hn5 : n ≤ 5000 := by rw [hl]; exact hg.2.1
  have hrn2 : r < n + 1 := by omega
  have hwc : IntKind.i32.wrap (c + by_) = c' := by rw [hc, hby, hc']; decide
  have hwb : IntKind.i32.wrap by_ = by_ := by rw [hby]; decide
  have hkI : (k : Int) < 4 := by omega
  have hpos : 0 < c' := by omega
  have hob : ∀ g', (Value.slice p n cap).ownBlock = some g' → g' < w.heap.size := fun g' e => by
    rcases ho.2 with ⟨h4, _⟩ | ⟨g, C', cur, h4, _, h3, _⟩
    · injection h4 with h4; subst h4; simp [Value.ownBlock] at e
    · injection h4 with h4; subst h4
      have : g = g' := by simpa [Value.ownBlock] using e
      exact this ▸ heap_lt h3
  have HINS : Hid (∀ w1, Below w.heap.size w w1 → Calls Tryz.prog 59 #[.slice p n cap, .int .i64 r, .slice (some ⟨w1.heap.size, 0, none⟩) 1 1] (w1.alloc (.cells #[.int .i16 node, .int .i16 0, .int .i32 0, .int .i32 0, .int .i32 0, .int .i32 0] 96)) fun e w3 =>
      ∃ g' cap', e = .returned (.slice (some ⟨g', 0, none⟩) (n + 1) cap') ∧ w3.cell? ⟨nb, i, none⟩ = some (.slice p n cap) ∧ w3.frozen? ⟨nb, i, none⟩ = false ∧ ∀ W, W = w3.setCell ⟨nb, i, none⟩ (.slice (some ⟨g', 0, none⟩) (n + 1) cap') →
        (nb ≠ g' ∧ W.cell? ⟨nb, i, none⟩ = some (.slice (some ⟨g', 0, none⟩) (n + 1) cap') ∧ W.cell? ⟨g', r * 6 + 2 + k, none⟩ = some (.int .i32 c) ∧ W.cell? ⟨g', r * 6 + 1, none⟩ = some (.int .i16 s) ∧ W.frozen? ⟨g', r * 6 + 2 + k, none⟩ = false ∧ W.frozen? ⟨g', r * 6 + 1, none⟩ = false) ∧
        ∀ W', W'.heap = (((W.setCell ⟨g', r * 6 + 2 + k, none⟩ (.int .i32 c')).setCell ⟨g', r * 6 + 1, none⟩ (.int .i16 s1)).setCell ⟨g', r * 6 + 1, none⟩ (.int .i16 s2)).heap → W'.os = W.os → W'.tape = W.tape → W'.output = W.output →
          ChgP B nb i (.slice p n cap) (inK ks r (setkK (setcK (newK node) k c') s2)) w (.returned (.tuple #[])) W') := Lib.hid fun w1 hb => by
    obtain ⟨o, ho_⟩ : ∃ o, o = Obj.cells #[.int .i16 node, .int .i16 0, .int .i32 0, .int .i32 0, .int .i32 0, .int .i32 0] 96 (0, 0) := ⟨_, rfl⟩
    have hba : Below w.heap.size w (w1.alloc o) := hb.alloc hb.size o
    have hown : OwnK B (w1.alloc o) (.slice p n cap) ks := own_any ho (fun k hk => hba.block k (hob k hk))
    unfold OwnK at hown
    rw [← hl] at hown
    have hsz : (w1.alloc o).heap.size = w1.heap.size + 1 := by simp
    rw [← ho_]
    refine (insK (y := Lk.vals (newK node)) hown r (by omega) (by omega) (by have := hba.size; omega) rfl (by rw [ho_]; exact heap_alloc_at _ _ _ rfl) (fun u hu => oneK [newK node] u (by simpa [flatK] using hu)) (oneK ks) (fun e => by have := hob _ e; have := hb.size; omega)).mono ?_
    rintro e w3 ⟨v', rfl, ho3, hg3, hat⟩
    rw [flatK_in] at ho3
    have hf3 : Fr (fun h => (Value.slice p n cap).ownBlock = some h) w w3 := (Fr.of_below hba).trans (Fr.of_grown (F := fun h => (Value.slice p n cap).ownBlock = some h) hg3 (fun k hk => hk)) (fun _ _ h => h)
    have hbk := hf3.block hnb hnbg
    rcases ho3.2 with ⟨rfl, h4⟩ | ⟨g', c2, cur, rfl, h5⟩
    · omega
    · have hg4 : g' < w3.heap.size := heap_lt h5.2.1
      have hat' : (Value.slice p n cap).ownBlock = some g' ∨ w.heap.size ≤ g' := by
        rcases hat with h | h
        · exact .inl (by rw [← h]; rfl)
        · refine .inr ?_
          have : g' = (w1.alloc o).heap.size := by simpa [Value.ownBlock] using h
          have := hba.size
          omega
      have hne : nb ≠ g' := fun e => by
        rcases hat' with h | h
        · exact hnbg (by rw [h, e])
        · omega
      refine ⟨g', c2, rfl, ?_, ?_, ?_⟩
      · simp only [World.cell?, hbk] at hV ⊢; exact hV
      · simp only [World.frozen?, hbk] at hfz ⊢; exact hfz
      · intro W hW
        have hc3 : w3.cell? ⟨nb, i, none⟩ = some (.slice p n cap) := by simp only [World.cell?, hbk] at hV ⊢; exact hV
        have hWg : W.heap[g']? = w3.heap[g']? := by rw [hW]; exact Below.heap_setCell _ _ _ _ (Ne.symm hne)
        have hoW := own_blk (w' := W) ho3 hWg
        have hlen := flatK_len (inK ks r (newK node))
        have hil := inK_len (newK node) hrl
        have hcell : ∀ j, j < 6 → W.cell? ⟨g', r * 6 + j, none⟩ = (Lk.vals (newK node))[j]? ∧ W.frozen? ⟨g', r * 6 + j, none⟩ = false := fun j hj => by
          have hgt := flatK_get (inK ks r (newK node)) r j (by omega) hj
          rw [inK_get _ hrl] at hgt
          have hv : (Lk.vals (newK node))[j]? = some ((Lk.vals (newK node))[j]'(by simpa [Lk.vals] using hj)) := List.getElem?_eq_getElem _
          have := World.ownsRow.cells hoW (g := g') rfl (r * 6 + j) _ (hgt.trans hv)
          rw [add_plain, Nat.zero_add] at this
          refine ⟨by rw [hv]; exact this, ?_⟩
          simp [World.frozen?, hWg, h5.2.1]
        have hcc := hcell (2 + k) (by omega)
        rw [vals_cnt _ k hk, ← Nat.add_assoc] at hcc
        have hcn : cntK (newK node) k = c := by rw [hc]; match k, hk with
          | 0, _ => rfl
          | 1, _ => rfl
          | 2, _ => rfl
          | 3, _ => rfl
        rw [hcn] at hcc
        have hcs : W.cell? ⟨g', r * 6 + 1, none⟩ = some (.int .i16 s) ∧ W.frozen? ⟨g', r * 6 + 1, none⟩ = false := by
          have := hcell 1 (by omega)
          rw [hs]
          exact this
        refine ⟨⟨hne, by rw [hW]; exact World.cell?_setCell_same _ _ _ hc3, hcc.1, hcs.1, hcc.2, hcs.2⟩, fun W' hW' q1 q2 q3 => ?_⟩
        have hset : inK ks r (setkK (setcK (newK node) k c') s2) = (inK ks r (newK node)).set r (setkK (setcK (newK node) k c') s2) := (inK_set _ _ hrl).symm
        have hv1 : flatK ((inK ks r (newK node)).set r (setcK (newK node) k c')) = (flatK (inK ks r (newK node))).set (r * 6 + 2 + k) (.int .i32 c') := by
          rw [Nat.add_assoc]
          exact flatK_set _ r (2 + k) _ _ (by omega) (by omega) (by rw [inK_get _ hrl]; exact vals_setc _ k hk c')
        have hv2 : ∀ s3 : Int, flatK ((inK ks r (newK node)).set r (setkK (setcK (newK node) k c') s3)) = ((flatK (inK ks r (newK node))).set (r * 6 + 2 + k) (.int .i32 c')).set (r * 6 + 1) (.int .i16 s3) := fun s3 => by
          have := flatK_set ((inK ks r (newK node)).set r (setcK (newK node) k c')) r 1 (setkK (setcK (newK node) k c') s3) (.int .i16 s3) (by rw [List.length_set]; omega) (by omega) (by rw [inK_set _ _ hrl, inK_get _ hrl]; rfl)
          rw [List.set_set, hv1] at this
          exact this
        have h3 := own_set (own_set (own_set hoW (r * 6 + 2 + k) (.int .i32 c')) (r * 6 + 1) (.int .i16 s1)) (r * 6 + 1) (.int .i16 s2)
        rw [List.set_set, ← hv2, ← hset] at h3
        have h3' := own_blk (w' := W') h3 (by rw [hW'])
        refine ⟨rfl, .slice (some ⟨g', 0, none⟩) (n + 1) c2, ?_, ?_, ?_, ?_⟩
        · unfold OwnK
          rw [inK_len _ hrl, ← hl]
          exact h3'
        · rcases hat' with h | h
          · exact .inl h.symm
          · exact .inr ⟨g', rfl, h⟩
        · rw [hW', Below.heap_setCell _ _ _ _ hne, Below.heap_setCell _ _ _ _ hne, Below.heap_setCell _ _ _ _ hne, hW]
          simp only [World.setCell, Array.getElem?_modify, if_true]
          rw [hbk]
        · have hWW : W.os = w3.os ∧ W.tape = w3.tape ∧ W.output = w3.output := by rw [hW]; exact ⟨rfl, rfl, rfl⟩
          refine ⟨q1.trans (hWW.1.trans hf3.1), q2.trans (hWW.2.1.trans hf3.2.1), q3.trans (hWW.2.2.trans hf3.2.2.1), ?_, fun h hlt hn => ?_⟩
          · rw [hW', hW]; simp only [World.setCell, Array.size_modify]; exact hf3.2.2.2.1
          · have hh1 : h ≠ g' := fun e => by
              rcases hat' with h' | h'
              · exact hn (.inl (by rw [h', e]))
              · omega
            have hh2 : h ≠ nb := fun e => hn (.inr e)
            rw [hW', Below.heap_setCell _ _ _ _ hh1, Below.heap_setCell _ _ _ _ hh1, Below.heap_setCell _ _ _ _ hh1, hW, Below.heap_setCell _ _ _ _ hh2]
            exact hf3.block hlt (fun e => hn (.inl e))
  generalize ChgP B nb i (.slice p n cap) (inK ks r (setkK (setcK (newK node) k c') s2)) w = Post at HINS ⊢
  clear ho hg hr hl hrn hrl hB hnd hnbg hob hc hs hby hc'
  go_enter Tryz.func38, Tryz.ntmps38
  go_wp2_with fail
  refine (HBS.out).mono ?_
  rintro e w1 ⟨rfl, hb⟩
  have HB1 := Lib.hid hb
  have hnb1 : nb < w1.heap.size := Nat.lt_of_lt_of_le hnb hb.size
  have hbb : ∀ o, (w1.alloc o).heap[nb]? = w.heap[nb]? := fun o => ((Below.refl _ _ : Below w1.heap.size w1 w1).alloc (Nat.le_refl _) o).block nb hnb1 |>.trans (hb.block nb hnb)
  have b0 := (hb.cell (p := ⟨nb, i, none⟩) hnb).trans hV
  have p0 : ∀ o, (w1.alloc o).cell? ⟨nb, i, none⟩ = some (.slice p n cap) := fun o => by simp only [World.cell?, hbb] at hV ⊢; exact hV
  clear hb HBS
  go_wp2_with fail
  refine (HINS.out w1 HB1.out).mono ?_
  rintro e w3 ⟨g', cap', rfl, z0, z1, z2⟩
  clear b0 p0 hbb hV hfz hnb hnb1 HINS HB1
  obtain ⟨⟨hne, e0, b1, b2, b3, b4⟩, hfin⟩ := z2 _ rfl
  have HFIN := Lib.hid hfin
  have B1 := Lib.hid b1
  have B2 := Lib.hid b2
  have B3 := Lib.hid b3
  have B4 := Lib.hid b4
  clear z2 hfin b1 b2 b3 b4
  go_wp2_with fail
  generalize w3.setCell ⟨nb, i, none⟩ (.slice (some ⟨g', 0, none⟩) (n + 1) cap') = w4 at e0 HFIN B1 B2 B3 B4 ⊢
  have b1 := B1.out
  have b2 := B2.out
  have b3 := B3.out
  have b4 := B4.out
  clear B1 B2 B3 B4 z0 z1
  go_region
  go_wp2_with fail
  have hne1 : ¬ (r * 6 + 2 + k = r * 6 + 1) := by omega
  have hne2 : ¬ (r * 6 + 1 = r * 6 + 2 + k) := by omega
  go_region
  go_wp2_with fail
  have hx0 : ((w4.setCell ⟨g', r * 6 + 2 + k, none⟩ (.int .i32 c')).setCell ⟨g', r * 6 + 1, none⟩ (.int .i16 s1)).cell? ⟨g', r * 6 + 1, none⟩ = some (.int .i16 s1) := World.cell?_setCell_same _ _ _ ((World.cell?_setCell_other _ _ _ _ (by first | (simp; done) | (simp; omega))).trans b2)
  have hx : (((w4.setCell ⟨g', r * 6 + 2 + k, none⟩ (.int .i32 c')).setCell ⟨g', r * 6 + 1, none⟩ (.int .i16 s1)).setCell ⟨g', r * 6 + 1, none⟩ (.int .i16 s2)).cell? ⟨g', r * 6 + 1, none⟩ = some (.int .i16 s2) := World.cell?_setCell_same _ _ _ hx0
  go_region
  go_wp2
  exact bodyPost_end (v := .tuple #[]) (results_none rfl _ _ _) rfl (HFIN.out _ rfl rfl rfl rfl)
end Go.Proofs.YtimgdkafennohaaGreatDoor.Ln
namespace Go.Proofs.YtimgdkafennohaaGreatDoor.Ln
open Go.ChangeShapes Go.WideShapes Go.ChangeAt Go.RowKit Base Ro F
/-- The bits of the kinds whose counts are positive. -/
def bitsOf (f : Nat → Int) : Int := (if 0 < f 0 then 1 else 0) + (if 0 < f 1 then 2 else 0) + (if 0 < f 2 then 4 else 0) + (if 0 < f 3 then 8 else 0)
def lnk (cnt : Nat → Nat → Int) (n : Nat) : Lk := ⟨n, bitsOf (cnt n), cnt n 0, cnt n 1, cnt n 2, cnt n 3⟩
def entK (cnt : Nat → Nat → Int) (n : Nat) : List Lk := if bitsOf (cnt n) = 0 then [] else [lnk cnt n]
/-- The links that the counts ask for. -/
def canK (cnt : Nat → Nat → Int) (l : List Nat) : List Lk := l.flatMap (entK cnt)
def upd (cnt : Nat → Nat → Int) (node k : Nat) (v : Int) : Nat → Nat → Int := fun n j => if n = node ∧ j = k then v else cnt n j
theorem entK_nd {cnt : Nat → Nat → Int} {n : Nat} {x : Lk} (h : x ∈ entK cnt n) : x.nd = n ∧ x = lnk cnt n := by
  unfold entK at h
  split at h
  · cases h
  · simp only [List.mem_singleton] at h; subst h; exact ⟨rfl, rfl⟩
theorem canK_mem {cnt : Nat → Nat → Int} {l : List Nat} {x : Lk} (h : x ∈ canK cnt l) : ∃ n, n ∈ l ∧ x.nd = n ∧ x = lnk cnt n := by
  unfold canK at h
  rw [List.mem_flatMap] at h
  obtain ⟨n, hn, hx⟩ := h
  exact ⟨n, hn, entK_nd hx⟩
theorem canK_len (cnt : Nat → Nat → Int) : ∀ l : List Nat, (canK cnt l).length ≤ l.length
  | [] => Nat.le_refl _
  | n :: l => by
    have := canK_len cnt l
    unfold canK at this ⊢
    rw [List.flatMap_cons, List.length_append, List.length_cons]
    have : (entK cnt n).length ≤ 1 := by unfold entK; split <;> simp
    omega
theorem canK_pw (cnt : Nat → Nat → Int) : ∀ l : List Nat, l.Pairwise (· < ·) → (canK cnt l).Pairwise (fun x y => x.nd < y.nd)
  | [], _ => List.Pairwise.nil
  | n :: l, h => by
    rw [List.pairwise_cons] at h
    have ih := canK_pw cnt l h.2
    unfold canK at ih ⊢
    rw [List.flatMap_cons, List.pairwise_append]
    refine ⟨by unfold entK; split <;> simp, ih, fun x hx y hy => ?_⟩
    obtain ⟨m, hm, h1, _⟩ := canK_mem (cnt := cnt) (l := l) (x := y) hy
    have := h.1 m hm
    rw [(entK_nd hx).1, h1]
    omega
theorem pw_up {ks : List Lk} (h : ks.Pairwise (fun x y => x.nd < y.nd)) : UpK ks := by
  intro i j hij hj
  rw [List.pairwise_iff_getElem] at h
  have := h i j (by omega) hj hij
  rw [List.getD_eq_getElem?_getD, List.getD_eq_getElem?_getD, List.getElem?_eq_getElem hj, List.getElem?_eq_getElem (show i < ks.length by omega)]
  exact this
theorem range_lt (N : Nat) : (List.range N).Pairwise (· < ·) := List.pairwise_lt_range
theorem canK_good (cnt : Nat → Nat → Int) {N : Nat} (hN : N ≤ 5000) : GoodK (canK cnt (List.range N)) := by
  refine ⟨pw_up (canK_pw cnt _ (range_lt N)), ?_, fun j hj => ?_⟩
  · have := canK_len cnt (List.range N); rw [List.length_range] at this; omega
  · have hm := List.getElem_mem hj
    obtain ⟨n, h1, h2, _⟩ := canK_mem hm
    rw [List.mem_range] at h1
    rw [List.getD_eq_getElem?_getD, List.getElem?_eq_getElem hj]
    simp only [Option.getD_some]
    omega
/-- All nodes: those ahead of one, the one, those behind. -/
theorem range_cut {N node : Nat} (h : node < N) : ∃ suf, List.range N = List.range node ++ node :: suf ∧ ∀ n ∈ suf, node < n := by
  refine ⟨List.range' (node + 1) (N - node - 1), ?_, fun n hn => by rw [List.mem_range'_1] at hn; omega⟩
  rw [List.range_eq_range', List.range_eq_range', ← List.range'_succ, show N - node - 1 + 1 = N - node by omega]
  have := List.range'_append (s := 0) (m := node) (n := N - node) (step := 1)
  rw [show 0 + 1 * node = node by omega, show node + (N - node) = N by omega] at this
  exact this.symm
theorem canK_app (cnt : Nat → Nat → Int) (l m : List Nat) : canK cnt (l ++ m) = canK cnt l ++ canK cnt m := by simp [canK]
theorem canK_cons (cnt : Nat → Nat → Int) (n : Nat) (m : List Nat) : canK cnt (n :: m) = entK cnt n ++ canK cnt m := by simp [canK]
theorem canK_upd {cnt : Nat → Nat → Int} {node k : Nat} {v : Int} : ∀ {l : List Nat}, (∀ n ∈ l, n ≠ node) → canK (upd cnt node k v) l = canK cnt l
  | [], _ => rfl
  | n :: l, h => by
    rw [canK_cons, canK_cons, canK_upd (fun m hm => h m (List.mem_cons_of_mem _ hm))]
    have : upd cnt node k v n = cnt n := by funext j; simp [upd, h n List.mem_cons_self]
    unfold entK lnk
    rw [this]
theorem canK_fst {cnt : Nat → Nat → Int} {node : Nat} {ent suf : List Lk} (hs : ∀ x ∈ suf, (node : Int) < x.nd) (he : ∀ x ∈ ent, x.nd = node) : Fst (geK (canK cnt (List.range node) ++ (ent ++ suf)) node) (canK cnt (List.range node) ++ (ent ++ suf)).length (canK cnt (List.range node)).length := by
  refine ⟨by simp, fun j hj => ?_, fun j hj hl => ?_⟩
  · have hm := List.getElem_mem hj
    obtain ⟨n, h1, h2, _⟩ := canK_mem hm
    rw [List.mem_range] at h1
    unfold geK
    rw [List.getD_eq_getElem?_getD, List.getElem?_append_left hj, List.getElem?_eq_getElem hj]
    simp only [Option.getD_some, decide_eq_false_iff_not]
    omega
  · rw [List.length_append] at hl
    have hj2 : j - (canK cnt (List.range node)).length < (ent ++ suf).length := by omega
    have hm := List.getElem_mem hj2
    unfold geK
    rw [List.getD_eq_getElem?_getD, List.getElem?_append_right hj, List.getElem?_eq_getElem hj2]
    simp only [Option.getD_some, decide_eq_true_eq]
    rcases List.mem_append.1 hm with h | h
    · rw [he _ h]; omega
    · have := hs _ h; omega
theorem bit_w (k : Nat) (hk : k < 4) : IntKind.i16.wrap (2 ^ k) = (2 ^ k : Int) := by
  match k, hk with
  | 0, _ => decide
  | 1, _ => decide
  | 2, _ => decide
  | 3, _ => decide
theorem bit_out (f : Nat → Int) (k : Nat) (hk : k < 4) (v : Int) (hv : ¬ 0 < v) : bits .andNot .i16 (bitsOf f) (2 ^ k) = bitsOf (fun j => if j = k then v else f j) := by
  unfold bitsOf
  match k, hk with
  | 0, _ => simp only [if_neg hv, if_true, show ¬ (1 : Nat) = 0 by omega, show ¬ (2 : Nat) = 0 by omega, show ¬ (3 : Nat) = 0 by omega, if_false]; by_cases h0 : 0 < f 0 <;> by_cases h1 : 0 < f 1 <;> by_cases h2 : 0 < f 2 <;> by_cases h3 : 0 < f 3 <;> simp only [h0, h1, h2, h3, if_true, if_false] <;> decide
  | 1, _ => simp only [if_neg hv, if_true, show ¬ (0 : Nat) = 1 by omega, show ¬ (2 : Nat) = 1 by omega, show ¬ (3 : Nat) = 1 by omega, if_false]; by_cases h0 : 0 < f 0 <;> by_cases h1 : 0 < f 1 <;> by_cases h2 : 0 < f 2 <;> by_cases h3 : 0 < f 3 <;> simp only [h0, h1, h2, h3, if_true, if_false] <;> decide
  | 2, _ => simp only [if_neg hv, if_true, show ¬ (1 : Nat) = 2 by omega, show ¬ (0 : Nat) = 2 by omega, show ¬ (3 : Nat) = 2 by omega, if_false]; by_cases h0 : 0 < f 0 <;> by_cases h1 : 0 < f 1 <;> by_cases h2 : 0 < f 2 <;> by_cases h3 : 0 < f 3 <;> simp only [h0, h1, h2, h3, if_true, if_false] <;> decide
  | 3, _ => simp only [if_neg hv, if_true, show ¬ (1 : Nat) = 3 by omega, show ¬ (2 : Nat) = 3 by omega, show ¬ (0 : Nat) = 3 by omega, if_false]; by_cases h0 : 0 < f 0 <;> by_cases h1 : 0 < f 1 <;> by_cases h2 : 0 < f 2 <;> by_cases h3 : 0 < f 3 <;> simp only [h0, h1, h2, h3, if_true, if_false] <;> decide
theorem bit_in (f : Nat → Int) (k : Nat) (hk : k < 4) (u v : Int) (hu : ¬ 0 < u) (hv : 0 < v) : bits .or .i16 (bitsOf (fun j => if j = k then u else f j)) (2 ^ k) = bitsOf (fun j => if j = k then v else f j) := by
  unfold bitsOf
  match k, hk with
  | 0, _ => simp only [if_neg hu, if_pos hv, if_true, show ¬ (1 : Nat) = 0 by omega, show ¬ (2 : Nat) = 0 by omega, show ¬ (3 : Nat) = 0 by omega, if_false]; by_cases h1 : 0 < f 1 <;> by_cases h2 : 0 < f 2 <;> by_cases h3 : 0 < f 3 <;> simp only [h1, h2, h3, if_true, if_false] <;> decide
  | 1, _ => simp only [if_neg hu, if_pos hv, if_true, show ¬ (0 : Nat) = 1 by omega, show ¬ (2 : Nat) = 1 by omega, show ¬ (3 : Nat) = 1 by omega, if_false]; by_cases h0 : 0 < f 0 <;> by_cases h2 : 0 < f 2 <;> by_cases h3 : 0 < f 3 <;> simp only [h0, h2, h3, if_true, if_false] <;> decide
  | 2, _ => simp only [if_neg hu, if_pos hv, if_true, show ¬ (1 : Nat) = 2 by omega, show ¬ (0 : Nat) = 2 by omega, show ¬ (3 : Nat) = 2 by omega, if_false]; by_cases h0 : 0 < f 0 <;> by_cases h1 : 0 < f 1 <;> by_cases h3 : 0 < f 3 <;> simp only [h0, h1, h3, if_true, if_false] <;> decide
  | 3, _ => simp only [if_neg hu, if_pos hv, if_true, show ¬ (1 : Nat) = 3 by omega, show ¬ (2 : Nat) = 3 by omega, show ¬ (0 : Nat) = 3 by omega, if_false]; by_cases h0 : 0 < f 0 <;> by_cases h1 : 0 < f 1 <;> by_cases h2 : 0 < f 2 <;> simp only [h0, h1, h2, if_true, if_false] <;> decide
theorem upd_at (cnt : Nat → Nat → Int) (node k : Nat) (v : Int) : upd cnt node k v node = fun j => if j = k then v else cnt node j := by
  funext j; simp [upd]
theorem lnk_upd (cnt : Nat → Nat → Int) (node k : Nat) (hk : k < 4) (v : Int) : setkK (setcK (lnk cnt node) k v) (bitsOf (upd cnt node k v node)) = lnk (upd cnt node k v) node := by
  unfold lnk
  rw [upd_at]
  match k, hk with
  | 0, _ => simp [setkK, setcK]
  | 1, _ => simp [setkK, setcK]
  | 2, _ => simp [setkK, setcK]
  | 3, _ => simp [setkK, setcK]
theorem cnt_lnk (cnt : Nat → Nat → Int) (node k : Nat) (hk : k < 4) : cntK (lnk cnt node) k = cnt node k := by
  match k, hk with
  | 0, _ => rfl
  | 1, _ => rfl
  | 2, _ => rfl
  | 3, _ => rfl
theorem setCell_self {w : World} {nb i : Nat} {V : Value} (h : w.cell? ⟨nb, i, none⟩ = some V) : (w.setCell ⟨nb, i, none⟩ V).heap[nb]? = w.heap[nb]? := by
  simp only [World.setCell, Array.getElem?_modify, if_true]
  unfold World.cell? at h
  cases hh : w.heap[nb]? with
  | none => rfl
  | some o =>
    rw [hh] at h
    cases o with
    | cells c e ph =>
      simp only [Option.isSome_none, Bool.false_eq_true, if_false] at h
      have : c.setIfInBounds i V = c := by
        apply Array.ext (by simp)
        intro j h1 h2
        rw [Array.getElem_setIfInBounds h2]
        split
        · rename_i he; subst he; rw [Array.getElem?_eq_getElem h2] at h; exact (Option.some.inj h).symm
        · rfl
      show some (Obj.cells (c.setIfInBounds i V) e ph) = some (Obj.cells c e ph)
      rw [this]
    | _ => cases h
/-- What stays where it is, told as ChgP does. -/
theorem chg_stay {B nb i g n cap : Nat} {ks' : List Lk} {w : World} (hV : w.cell? ⟨nb, i, none⟩ = some (.slice (some ⟨g, 0, none⟩) n cap)) (hnb : nb < w.heap.size) (hne : nb ≠ g) (e : Ending) (w' : World)
    (h : e = .returned (.tuple #[]) ∧ OwnK B w' (.slice (some ⟨g, 0, none⟩) n cap) ks' ∧ Fr (fun h => h = g) w w') : ChgP B nb i (.slice (some ⟨g, 0, none⟩) n cap) ks' w e w' := by
  obtain ⟨h1, h2, h3⟩ := h
  refine ⟨h1, _, h2, .inl rfl, ?_, h3.1, h3.2.1, h3.2.2.1, h3.2.2.2.1, fun k hk hn => h3.2.2.2.2 k hk (fun e => hn (.inl ?_))⟩
  · rw [setCell_self hV]; exact h3.block hnb hne
  · rw [e]; rfl
end Go.Proofs.YtimgdkafennohaaGreatDoor.Ln
namespace Go.Proofs.YtimgdkafennohaaGreatDoor.Ln
open Go.ChangeShapes Go.WideShapes Go.ChangeAt Go.RowKit Base Ro F
theorem ownK_form {B : Nat} {w : World} {V : Value} {ks : List Lk} (h : OwnK B w V ks) : ∃ p cap, V = .slice p ks.length cap := by
  rcases h.2 with ⟨rfl, h0⟩ | ⟨g, cap, cur, rfl, _⟩
  · exact ⟨none, 0, by rw [h0]⟩
  · exact ⟨_, _, rfl⟩
theorem ownK_form1 {B : Nat} {w : World} {V : Value} {ks : List Lk} (h : OwnK B w V ks) (h0 : 0 < ks.length) : ∃ g cap, V = .slice (some ⟨g, 0, none⟩) ks.length cap := by
  rcases h.2 with ⟨rfl, h0⟩ | ⟨g, cap, cur, rfl, _⟩
  · omega
  · exact ⟨_, _, rfl⟩
theorem bitsOf_pos {f : Nat → Int} {k : Nat} (hk : k < 4) (h : 0 < f k) : bitsOf f ≠ 0 := by
  unfold bitsOf
  match k, hk with
  | 0, _ => rw [if_pos h]; split <;> split <;> split <;> omega
  | 1, _ => rw [if_pos h]; split <;> split <;> split <;> omega
  | 2, _ => rw [if_pos h]; split <;> split <;> split <;> omega
  | 3, _ => rw [if_pos h]; split <;> split <;> split <;> omega
theorem upd_same (cnt : Nat → Nat → Int) (node k : Nat) : upd cnt node k (cnt node k) = cnt := by
  funext n j
  unfold upd
  split
  · rename_i h; rw [h.1, h.2]
  · rfl
theorem change_any {B nb i N node k : Nat} {V : Value} {cnt : Nat → Nat → Int} {by_ v : Int} (w : World) (hV : w.cell? ⟨nb, i, none⟩ = some V) (hnb : nb < w.heap.size) (ho : OwnK B w V (canK cnt (List.range N))) (hN : N ≤ 5000) (hnode : node < N) (hk : k < 4)
    (hcb : ∀ n j, 0 ≤ cnt n j ∧ cnt n j ≤ 1000000) (hv : v = cnt node k + by_) (hby : by_ = 1 ∨ by_ = -1 ∧ 0 < cnt node k) (hnbg : V.ownBlock ≠ some nb) (hfz : w.frozen? ⟨nb, i, none⟩ = false) (hB : B ≤ w.heap.size) :
    Calls Tryz.prog 38 #[.pointer (some ⟨nb, i, none⟩), .int .i64 (node : Int), .int .i64 (k : Int), .int .i64 by_] w (ChgP B nb i V (canK (upd cnt node k v) (List.range N)) w) := by
  have hgd := canK_good cnt hN
  obtain ⟨suf, hcut, hsuf⟩ := range_cut hnode
  have hup : canK (upd cnt node k v) (List.range N) = canK cnt (List.range node) ++ (entK (upd cnt node k v) node ++ canK cnt suf) := by
    rw [hcut, canK_app, canK_cons, canK_upd (fun n hn => by rw [List.mem_range] at hn; omega), canK_upd (fun n hn => by have := hsuf n hn; omega)]
  have hks : canK cnt (List.range N) = canK cnt (List.range node) ++ (entK cnt node ++ canK cnt suf) := by rw [hcut, canK_app, canK_cons]
  have hF := canK_fst (cnt := cnt) (node := node) (ent := entK cnt node) (suf := canK cnt suf) (fun x hx => by obtain ⟨n, h1, h2, _⟩ := canK_mem hx; have := hsuf n h1; omega) (fun x hx => (entK_nd hx).1)
  rw [← hks] at hF
  rw [hup]
  have hb := hcb node k
  have hbp : ¬ 0 < v → v ≤ 0 := fun h => by omega
  have hs2 := bit_w k hk
  by_cases hent : bitsOf (cnt node) = 0
  · -- a link that is new
    have he0 : entK cnt node = [] := by unfold entK; rw [if_pos hent]
    have hc0 : ∀ j, j < 4 → cnt node j = 0 := fun j hj => by
      have := hcb node j
      by_cases hp : 0 < cnt node j
      · exact absurd hent (bitsOf_pos hj hp)
      · omega
    have hck := hc0 k hk
    have hz0 : upd cnt node k 0 = cnt := by have := upd_same cnt node k; rw [hck] at this; exact this
    have hby1 : by_ = 1 := by omega
    have hv1 : v = 1 := by omega
    obtain ⟨p, cap, rfl⟩ := ownK_form ho
    have h1 : bits .andNot .i16 0 (2 ^ k) = 0 := by
      have := bit_out (cnt node) k hk 0 (by omega)
      rw [hent] at this
      rw [this, ← upd_at, hz0, hent]
    have h2 : bits .or .i16 0 (2 ^ k) = bitsOf (upd cnt node k v node) := by
      have := bit_in (cnt node) k hk 0 v (by omega) (by omega)
      rw [← upd_at, ← upd_at, hz0, hent] at this
      exact this
    have hnz : bitsOf (upd cnt node k v node) ≠ 0 := bitsOf_pos hk (by rw [upd_at]; simp; omega)
    rw [he0, List.nil_append] at hks
    have hnn : lnk (upd cnt node k v) node = setkK (setcK (newK node) k v) (bitsOf (upd cnt node k v node)) := by
      rw [← lnk_upd cnt node k hk v]
      have : ∀ s : Int, setkK (setcK (lnk cnt node) k v) s = setkK (setcK (newK node) k v) s := fun s => by
        unfold lnk newK
        rw [hc0 0 (by omega), hc0 1 (by omega), hc0 2 (by omega), hc0 3 (by omega)]
        match k, hk with
        | 0, _ => rfl
        | 1, _ => rfl
        | 2, _ => rfl
        | 3, _ => rfl
      exact this _
    have := chg_new (B := B) (nb := nb) (i := i) (p := p) (n := (canK cnt (List.range N)).length) (cap := cap) (node := (node : Int)) (r := (canK cnt (List.range node)).length) (k := k) (ks := canK cnt (List.range N)) (by_ := by_) (c := 0) (c' := v) (s := 0) (s1 := 0) (s2 := bitsOf (upd cnt node k v node)) (bit := 2 ^ k) w rfl hV hnb ho hgd hF
      (fun h => by
        obtain ⟨h3, h4⟩ := h
        rw [hks] at h3 h4
        rw [List.getD_eq_getElem?_getD, List.getElem?_append_right (Nat.le_refl _), Nat.sub_self] at h4
        rw [List.length_append] at h3
        have hpos : 0 < (canK cnt suf).length := by omega
        rw [List.getElem?_eq_getElem hpos] at h4
        simp only [Option.getD_some] at h4
        obtain ⟨n, h5, h6, _⟩ := canK_mem (List.getElem_mem hpos)
        have := hsuf n h5
        omega) (by rw [hks, List.length_append]; omega) hk rfl rfl hby1 hv1 hs2 h1 h2 (by simpa using hnz) hnbg hfz hB (by omega)
    have hin : inK (canK cnt (List.range N)) (canK cnt (List.range node)).length (setkK (setcK (newK node) k v) (bitsOf (upd cnt node k v node))) = canK cnt (List.range node) ++ (entK (upd cnt node k v) node ++ canK cnt suf) := by
      unfold inK entK
      rw [if_neg hnz, hks, hnn]
      simp
    rw [hin] at this
    exact this
  · have he1 : entK cnt node = [lnk cnt node] := by unfold entK; rw [if_neg hent]
    have hrl : (canK cnt (List.range node)).length < (canK cnt (List.range N)).length := by rw [hks, he1]; simp
    have hget : (canK cnt (List.range N)).getD (canK cnt (List.range node)).length Lk.zero = lnk cnt node := by
      rw [hks, he1, List.getD_eq_getElem?_getD, List.getElem?_append_right (Nat.le_refl _)]
      simp
    obtain ⟨g, cap, rfl⟩ := ownK_form1 ho (by omega)
    have hne : nb ≠ g := fun e => hnbg (by rw [e]; rfl)
    have hset : ∀ y, (canK cnt (List.range N)).set (canK cnt (List.range node)).length y = canK cnt (List.range node) ++ (y :: canK cnt suf) := fun y => by
      rw [hks, he1, List.set_append_right _ _ (Nat.le_refl _)]
      simp
    have hout : outK (canK cnt (List.range N)) (canK cnt (List.range node)).length = canK cnt (List.range node) ++ canK cnt suf := by
      unfold outK
      rw [hks, he1]
      simp
    by_cases hpos : 0 < v
    · -- one more or one less, some are left
      have hnz : bitsOf (upd cnt node k v node) ≠ 0 := bitsOf_pos hk (by rw [upd_at]; simp; omega)
      have := chg_up (B := B) (nb := nb) (i := i) (g := g) (n := (canK cnt (List.range N)).length) (cap := cap) (node := (node : Int)) (r := (canK cnt (List.range node)).length) (k := k) (ks := canK cnt (List.range N)) (by_ := by_) (c := cnt node k) (c' := v) (s := bitsOf (cnt node)) (s1 := bitsOf (fun j => if j = k then 0 else cnt node j)) (s2 := bitsOf (upd cnt node k v node)) (bit := 2 ^ k) w rfl hV hnb ho hgd hF hrl
        (by rw [hget]; rfl) hk (by rw [hget]; exact cnt_lnk cnt node k hk) (by rw [hget]; rfl) (by omega) hb hv hpos hs2 (bit_out (cnt node) k hk 0 (by omega)) (by rw [upd_at]; exact bit_in (cnt node) k hk 0 v (by omega) hpos) (by simpa using hnz)
      rw [hget, lnk_upd cnt node k hk v, hset] at this
      have he2 : entK (upd cnt node k v) node = [lnk (upd cnt node k v) node] := by unfold entK; rw [if_neg hnz]
      rw [he2]
      exact this.mono (chg_stay hV hnb hne)
    · have hbo := bit_out (cnt node) k hk v hpos
      rw [← upd_at cnt node k v] at hbo
      by_cases hz : bitsOf (upd cnt node k v node) = 0
      · have := chg_out (B := B) (nb := nb) (i := i) (g := g) (n := (canK cnt (List.range N)).length) (cap := cap) (node := (node : Int)) (r := (canK cnt (List.range node)).length) (k := k) (ks := canK cnt (List.range N)) (by_ := by_) (c := cnt node k) (c' := v) (s := bitsOf (cnt node)) (s1 := bitsOf (upd cnt node k v node)) (bit := 2 ^ k) w rfl hV hnb ho hgd hF hrl
          (by rw [hget]; rfl) hk (by rw [hget]; exact cnt_lnk cnt node k hk) (by rw [hget]; rfl) (by omega) hb hv hpos hs2 hbo hz hne hfz
        rw [hout] at this
        have he2 : entK (upd cnt node k v) node = [] := by unfold entK; rw [if_pos hz]
        rw [he2]
        exact this
      · have := chg_down (B := B) (nb := nb) (i := i) (g := g) (n := (canK cnt (List.range N)).length) (cap := cap) (node := (node : Int)) (r := (canK cnt (List.range node)).length) (k := k) (ks := canK cnt (List.range N)) (by_ := by_) (c := cnt node k) (c' := v) (s := bitsOf (cnt node)) (s1 := bitsOf (upd cnt node k v node)) (bit := 2 ^ k) w rfl hV hnb ho hgd hF hrl
          (by rw [hget]; rfl) hk (by rw [hget]; exact cnt_lnk cnt node k hk) (by rw [hget]; rfl) (by omega) hb hv hpos hs2 hbo (by simpa using hz)
        rw [hget, lnk_upd cnt node k hk v, hset] at this
        have he2 : entK (upd cnt node k v) node = [lnk (upd cnt node k v) node] := by unfold entK; rw [if_neg hz]
        rw [he2]
        exact this.mono (chg_stay hV hnb hne)
end Go.Proofs.YtimgdkafennohaaGreatDoor.Ln
