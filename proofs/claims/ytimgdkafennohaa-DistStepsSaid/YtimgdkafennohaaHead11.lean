/-
  Contracts of small functions, several texts laid into one. Not a statement of the seat.
-/
import Derived.Test.YtimgdkafennohaaHead7
import Derived.Test.YtimgdkafennohaaHead9
import Derived.Test.YtimgdkafennohaaFrame
import Derived.RegionTactic
import Derived.BigRegion
namespace Go.Proofs.Ytimgdkafennohaa.Ln
open Go.ChangeShapes Go.WideShapes Go.ChangeAt Go.RowKit Base Ro F
def flatK (ks : List Lk) : List Value := ks.flatMap Lk.vals
theorem flatK_len (ks : List Lk) : (flatK ks).length = ks.length * 6 := by
  unfold flatK
  induction ks with
  | nil => rfl
  | cons x l ih => rw [List.flatMap_cons, List.length_append, ih, List.length_cons]; simp [Lk.vals]; omega
theorem flatK_get : ∀ (ks : List Lk) (k j : Nat), k < ks.length → j < 6 → (flatK ks)[k * 6 + j]? = (Lk.vals (ks.getD k Lk.zero))[j]?
  | [], _, _, h, _ => by simp at h
  | x :: l, 0, j, _, hj => by
    unfold flatK
    rw [List.flatMap_cons, List.getElem?_append_left (by simp [Lk.vals]; omega)]
    simp
  | x :: l, k + 1, j, h, hj => by
    unfold flatK
    rw [List.flatMap_cons, List.getElem?_append_right (by simp [Lk.vals]; omega)]
    have := flatK_get l k j (by simpa using h) hj
    unfold flatK at this
    rw [show (k + 1) * 6 + j - (Lk.vals x).length = k * 6 + j by simp [Lk.vals]; omega, this]
    simp
theorem oneK (ks : List Lk) : ∀ u ∈ flatK ks, u.oneCell' = true := by
  intro u hu
  unfold flatK at hu
  rw [List.mem_flatMap] at hu
  obtain ⟨x, _, hx⟩ := hu
  simp only [Lk.vals, List.mem_cons, List.not_mem_nil, or_false] at hx
  rcases hx with rfl | rfl | rfl | rfl | rfl | rfl <;> rfl
/-- A slice of links of the call's own. -/
def OwnK (B : Nat) (w : World) (V : Value) (ks : List Lk) : Prop := w.ownsRow B 73 6 V ks.length (flatK ks)
theorem OwnK.lks {B : Nat} {w : World} {p : Option Addr} {n c : Nat} {ks : List Lk} (h : OwnK B w (.slice p n c) ks) : LksAt w p ks := by
  intro k hk
  rcases h.2 with ⟨h1, h2⟩ | ⟨g, cap, cur, h1, _, h3, _⟩
  · omega
  · injection h1 with h1 h4 h5
    subst h1
    have hc := World.ownsRow.cells h (g := g) rfl
    have key : ∀ j, j < 6 → w.cell? ⟨g, 0 + k * 6 + j, none⟩ = (Lk.vals (ks.getD k Lk.zero))[j]? := fun j hj => by
      have hv : (Lk.vals (ks.getD k Lk.zero))[j]? = some ((Lk.vals (ks.getD k Lk.zero))[j]'(by simpa [Lk.vals] using hj)) := List.getElem?_eq_getElem _
      have := hc (k * 6 + j) _ ((flatK_get ks k j hk hj).trans hv)
      rw [add_plain] at this
      rw [hv, Nat.add_assoc]
      exact this
    exact ⟨g, 0, rfl, heap_lt h3, key 0 (by omega), key 1 (by omega), key 2 (by omega), key 3 (by omega), key 4 (by omega), key 5 (by omega)⟩
/-- A cell of a row of the call's own is stored into. -/
theorem own_set {w : World} {B g n m cap size : Nat} {e : TypeId} {xs : List Value} (h : w.ownsRow B e size (.slice (some ⟨g, 0, none⟩) n cap) m xs) (j : Nat) (v : Value) : (w.setCell ⟨g, j, none⟩ v).ownsRow B e size (.slice (some ⟨g, 0, none⟩) n cap) m (xs.set j v) := by
  refine ⟨by rw [List.length_set]; exact h.1, ?_⟩
  rcases h.2 with ⟨h1, _⟩ | ⟨g', c', cur, h1, h2, h3, h4, h5, h6, h7⟩
  · cases h1
  · injection h1 with h1 h8 h9; injection h1 with h1; injection h1 with h1
    subst h1
    refine .inr ⟨g, c', cur.setIfInBounds j v, by rw [h8, h9], h2, ?_, h4, h5, by simpa using h6, ?_⟩
    · simp only [World.setCell, Array.getElem?_modify, if_true, h3, Option.map_some]
      rfl
    · rw [← h7, Array.toList_setIfInBounds, List.take_set]
theorem flatK_set : ∀ (ks : List Lk) (r j : Nat) (x : Lk) (v : Value), r < ks.length → j < 6 → Lk.vals x = (Lk.vals (ks.getD r Lk.zero)).set j v → flatK (ks.set r x) = (flatK ks).set (r * 6 + j) v
  | [], _, _, _, _, h, _, _ => by simp at h
  | y :: l, 0, j, x, v, _, hj, hx => by
    unfold flatK
    rw [List.set_cons_zero, List.flatMap_cons, List.flatMap_cons, hx, List.getD_cons_zero, List.set_append_left _ _ (by simp [Lk.vals]; omega)]
    simp
  | y :: l, r + 1, j, x, v, h, hj, hx => by
    have := flatK_set l r j x v (by simpa using h) hj (by simpa using hx)
    unfold flatK at this ⊢
    rw [List.set_cons_succ, List.flatMap_cons, List.flatMap_cons, this, List.set_append_right _ _ (by simp [Lk.vals]; omega), show (r + 1) * 6 + j - (Lk.vals y).length = r * 6 + j by simp [Lk.vals]; omega]
/-- The count of a kind. -/
def cntK (x : Lk) : Nat → Int
  | 0 => x.c0
  | 1 => x.c1
  | 2 => x.c2
  | _ => x.c3
def setcK (x : Lk) (k : Nat) (c : Int) : Lk := match k with
  | 0 => { x with c0 := c }
  | 1 => { x with c1 := c }
  | 2 => { x with c2 := c }
  | _ => { x with c3 := c }
def setkK (x : Lk) (s : Int) : Lk := { x with ks := s }
theorem vals_setc (x : Lk) (k : Nat) (hk : k < 4) (c : Int) : Lk.vals (setcK x k c) = (Lk.vals x).set (2 + k) (.int .i32 c) := by
  match k, hk with
  | 0, _ => rfl
  | 1, _ => rfl
  | 2, _ => rfl
  | 3, _ => rfl
theorem vals_setk (x : Lk) (s : Int) : Lk.vals (setkK x s) = (Lk.vals x).set 1 (.int .i16 s) := rfl
theorem vals_cnt (x : Lk) (k : Nat) (hk : k < 4) : (Lk.vals x)[2 + k]? = some (.int .i32 (cntK x k)) := by
  match k, hk with
  | 0, _ => rfl
  | 1, _ => rfl
  | 2, _ => rfl
  | 3, _ => rfl
end Go.Proofs.Ytimgdkafennohaa.Ln
namespace Go.Proofs.Ytimgdkafennohaa.Ln
open Go.ChangeShapes Go.WideShapes Go.ChangeAt Go.RowKit Base Ro F
theorem own_blk {w w' : World} {B g n cap size : Nat} {e : TypeId} {m : Nat} {vs : List Value} (hr : w.ownsRow B e size (.slice (some ⟨g, 0, none⟩) n cap) m vs) (h : w'.heap[g]? = w.heap[g]?) : w'.ownsRow B e size (.slice (some ⟨g, 0, none⟩) n cap) m vs := by
  refine ⟨hr.1, ?_⟩
  rcases hr.2 with ⟨h4, _⟩ | ⟨g', C', cur, h4, h2, h3, h5⟩
  · cases h4
  · injection h4 with h4 h6 h7; injection h4 with h4; injection h4 with h4
    subst h4
    exact .inr ⟨g, C', cur, by rw [h6, h7], h2, h.trans h3, h5⟩
/-- Links of few nodes, in bounds. -/
def GoodK (ks : List Lk) : Prop := UpK ks ∧ ks.length ≤ 5000 ∧ ∀ j, j < ks.length → -32768 ≤ (ks.getD j Lk.zero).nd ∧ (ks.getD j Lk.zero).nd ≤ 32767
set_option maxHeartbeats 4000000 in
set_option maxRecDepth 100000 in
theorem chg_up {B nb i g n cap r k : Nat} {ks : List Lk} {node by_ c c' s s1 s2 bit : Int} (w : World) (hl : n = ks.length) (hV : w.cell? ⟨nb, i, none⟩ = some (.slice (some ⟨g, 0, none⟩) n cap)) (hnb : nb < w.heap.size) (ho : OwnK B w (.slice (some ⟨g, 0, none⟩) n cap) ks) (hg : GoodK ks) (hr : Fst (geK ks node) ks.length r) (hrl : r < ks.length) (hrn : (ks.getD r Lk.zero).nd = node)
    (hk : k < 4) (hc : cntK (ks.getD r Lk.zero) k = c) (hs : (ks.getD r Lk.zero).ks = s) (hby : -1 ≤ by_ ∧ by_ ≤ 1) (hcb : 0 ≤ c ∧ c ≤ 1000000) (hc' : c' = c + by_) (hpos : 0 < c') (hbit : IntKind.i16.wrap (2 ^ k) = bit) (h1 : bits .andNot .i16 s bit = s1) (h2 : bits .or .i16 s1 bit = s2) (hz : (s2 == 0) = false) :
    Calls Try.prog 23 #[.pointer (some ⟨nb, i, none⟩), .int .i64 node, .int .i64 (k : Int), .int .i64 by_] w fun e w' => e = .returned (.tuple #[]) ∧ OwnK B w' (.slice (some ⟨g, 0, none⟩) n cap) (ks.set r (setkK (setcK (ks.getD r Lk.zero) k c') s2)) ∧ Fr (fun h => h = g) w w' := by
  have HBS := Lib.hid (bsearch_k (some ⟨g, 0, none⟩) cap ks node r w (by have := hg.2.1; omega) ho.lks hg.2.2 hg.1 hr)
  rw [decide_eq_true ⟨hrl, hrn⟩, ← hl] at HBS
  have hgw : g < w.heap.size := by obtain ⟨g', o, h, h', _⟩ := ho.lks r hrl; injection h with h; injection h with h; subst h; exact h'
  have hcell : ∀ j, j < 6 → w.cell? ⟨g, r * 6 + j, none⟩ = (Lk.vals (ks.getD r Lk.zero))[j]? ∧ w.frozen? ⟨g, r * 6 + j, none⟩ = false := fun j hj => by
    have hv : (Lk.vals (ks.getD r Lk.zero))[j]? = some ((Lk.vals (ks.getD r Lk.zero))[j]'(by simpa [Lk.vals] using hj)) := List.getElem?_eq_getElem _
    have := World.ownsRow.cells ho (g := g) rfl (r * 6 + j) _ ((flatK_get ks r j hrl hj).trans hv)
    rw [add_plain, Nat.zero_add] at this
    refine ⟨by rw [hv]; exact this, ?_⟩
    rcases ho.2 with ⟨h4, _⟩ | ⟨g', C', cur, h4, _, h3, _⟩
    · cases h4
    · injection h4 with h4; injection h4 with h4; injection h4 with h4; subst h4; simp [World.frozen?, h3]
  have hcc := hcell (2 + k) (by omega)
  rw [vals_cnt _ k hk, hc, ← Nat.add_assoc] at hcc
  have hcs : w.cell? ⟨g, r * 6 + 1, none⟩ = some (.int .i16 s) ∧ w.frozen? ⟨g, r * 6 + 1, none⟩ = false := by
    have := hcell 1 (by omega)
    rw [← hs]
    exact this
  have hrn2 : r < n := by omega
  have hn5 : n ≤ 5000 := by rw [hl]; exact hg.2.1
  have hwc : IntKind.i32.wrap (c + by_) = c' := by rw [hc', IntKind.wrap_i32]; omega
  have hwb : IntKind.i32.wrap by_ = by_ := by rw [IntKind.wrap_i32]; omega
  have hkI : (k : Int) < 4 := by omega
  have HFIN : Hid (∀ w1, Below w.heap.size w w1 → ∀ W, W.heap = (((w1.setCell ⟨g, r * 6 + 2 + k, none⟩ (.int .i32 c')).setCell ⟨g, r * 6 + 1, none⟩ (.int .i16 s1)).setCell ⟨g, r * 6 + 1, none⟩ (.int .i16 s2)).heap → W.os = w1.os → W.tape = w1.tape → W.output = w1.output →
      OwnK B W (.slice (some ⟨g, 0, none⟩) n cap) (ks.set r (setkK (setcK (ks.getD r Lk.zero) k c') s2)) ∧ Fr (fun h => h = g) w W) := Lib.hid fun w1 hb W hW q1 q2 q3 => by
    have ho1 : OwnK B w1 (.slice (some ⟨g, 0, none⟩) n cap) ks := own_blk ho (hb.block g hgw)
    have hlen := flatK_len ks
    have hv1 : flatK (ks.set r (setcK (ks.getD r Lk.zero) k c')) = (flatK ks).set (r * 6 + 2 + k) (.int .i32 c') := by
      rw [Nat.add_assoc]
      exact flatK_set ks r (2 + k) _ _ hrl (by omega) (vals_setc _ k hk c')
    have hgd : ∀ y : Lk, (ks.set r y).getD r Lk.zero = y := fun y => by simp [List.getD_eq_getElem?_getD, hrl]
    have hss : ∀ y z : Lk, (ks.set r y).set r z = ks.set r z := fun y z => by simp
    have hv2 : ∀ s3 : Int, flatK (ks.set r (setkK (setcK (ks.getD r Lk.zero) k c') s3)) = ((flatK ks).set (r * 6 + 2 + k) (.int .i32 c')).set (r * 6 + 1) (.int .i16 s3) := fun s3 => by
      have := flatK_set (ks.set r (setcK (ks.getD r Lk.zero) k c')) r 1 (setkK (setcK (ks.getD r Lk.zero) k c') s3) (.int .i16 s3) (by simpa using hrl) (by omega) (by rw [hgd]; rfl)
      rw [hss, hv1] at this
      exact this
    have h3 := own_set (own_set (own_set ho1 (r * 6 + 2 + k) (.int .i32 c')) (r * 6 + 1) (.int .i16 s1)) (r * 6 + 1) (.int .i16 s2)
    rw [List.set_set, ← hv2] at h3
    refine ⟨own_blk (w := ((w1.setCell ⟨g, r * 6 + 2 + k, none⟩ (.int .i32 c')).setCell ⟨g, r * 6 + 1, none⟩ (.int .i16 s1)).setCell ⟨g, r * 6 + 1, none⟩ (.int .i16 s2)) ?_ (by rw [hW]), ⟨q1.trans hb.os, q2.trans hb.tape, q3.trans hb.output, ?_, fun h hlt hn => ?_⟩⟩
    · rw [List.length_set]
      exact h3
    · rw [hW]; simp only [World.setCell, Array.size_modify]; exact hb.size
    · rw [hW, Below.heap_setCell _ _ _ _ hn, Below.heap_setCell _ _ _ _ hn, Below.heap_setCell _ _ _ _ hn]
      exact hb.block h hlt
  clear ho hg hr hrl hrn hc hs hcell hl hby hc' hcb
  obtain ⟨e0, e1⟩ := hcc
  obtain ⟨e2, e3⟩ := hcs
  go_enter Try.func23, Try.ntmps23
  go_wp2_with fail
  refine (HBS.out).mono ?_
  rintro e w1 ⟨rfl, hb⟩
  have HB1 := Lib.hid hb
  have b0 := (hb.cell (p := ⟨nb, i, none⟩) hnb).trans hV
  have b1 := (hb.cell (p := ⟨g, _, none⟩) hgw).trans e0
  have b2 := (hb.cell (p := ⟨g, _, none⟩) hgw).trans e2
  have b3 := (World.frozen?_of_block (a := ⟨g, r * 6 + 2 + k, none⟩) (hb.block g hgw)).trans e1
  have b4 := (World.frozen?_of_block (a := ⟨g, r * 6 + 1, none⟩) (hb.block g hgw)).trans e3
  clear hb e0 e1 e2 e3 hV HBS
  go_wp2_with fail
  go_region
  go_wp2_with fail
  have hne1 : ¬ (r * 6 + 2 + k = r * 6 + 1) := by omega
  have hne2 : ¬ (r * 6 + 1 = r * 6 + 2 + k) := by omega
  go_region
  go_wp2_with fail
  have hx0 : ((w1.setCell ⟨g, r * 6 + 2 + k, none⟩ (.int .i32 c')).setCell ⟨g, r * 6 + 1, none⟩ (.int .i16 s1)).cell? ⟨g, r * 6 + 1, none⟩ = some (.int .i16 s1) := World.cell?_setCell_same _ _ _ ((World.cell?_setCell_other _ _ _ _ (by first | (simp; done) | (simp; omega))).trans b2)
  have hx : (((w1.setCell ⟨g, r * 6 + 2 + k, none⟩ (.int .i32 c')).setCell ⟨g, r * 6 + 1, none⟩ (.int .i16 s1)).setCell ⟨g, r * 6 + 1, none⟩ (.int .i16 s2)).cell? ⟨g, r * 6 + 1, none⟩ = some (.int .i16 s2) := World.cell?_setCell_same _ _ _ hx0
  go_region
  go_wp2
  have hf := HFIN.out w1 HB1.out
  exact bodyPost_end (v := .tuple #[]) (results_none rfl _ _ _) rfl ⟨rfl, hf _ rfl rfl rfl rfl⟩
end Go.Proofs.Ytimgdkafennohaa.Ln
namespace Go.Proofs.Ytimgdkafennohaa.Ln
open Go.ChangeShapes Go.WideShapes Go.ChangeAt Go.RowKit Base Ro F
set_option maxHeartbeats 4000000 in
set_option maxRecDepth 100000 in
theorem chg_down {B nb i g n cap r k : Nat} {ks : List Lk} {node by_ c c' s s1 bit : Int} (w : World) (hl : n = ks.length) (hV : w.cell? ⟨nb, i, none⟩ = some (.slice (some ⟨g, 0, none⟩) n cap)) (hnb : nb < w.heap.size) (ho : OwnK B w (.slice (some ⟨g, 0, none⟩) n cap) ks) (hg : GoodK ks) (hr : Fst (geK ks node) ks.length r) (hrl : r < ks.length) (hrn : (ks.getD r Lk.zero).nd = node)
    (hk : k < 4) (hc : cntK (ks.getD r Lk.zero) k = c) (hs : (ks.getD r Lk.zero).ks = s) (hby : -1 ≤ by_ ∧ by_ ≤ 1) (hcb : 0 ≤ c ∧ c ≤ 1000000) (hc' : c' = c + by_) (hpos : ¬ 0 < c') (hbit : IntKind.i16.wrap (2 ^ k) = bit) (h1 : bits .andNot .i16 s bit = s1) (hz : (s1 == 0) = false) :
    Calls Try.prog 23 #[.pointer (some ⟨nb, i, none⟩), .int .i64 node, .int .i64 (k : Int), .int .i64 by_] w fun e w' => e = .returned (.tuple #[]) ∧ OwnK B w' (.slice (some ⟨g, 0, none⟩) n cap) (ks.set r (setkK (setcK (ks.getD r Lk.zero) k c') s1)) ∧ Fr (fun h => h = g) w w' := by
  have HBS := Lib.hid (bsearch_k (some ⟨g, 0, none⟩) cap ks node r w (by have := hg.2.1; omega) ho.lks hg.2.2 hg.1 hr)
  rw [decide_eq_true ⟨hrl, hrn⟩, ← hl] at HBS
  have hgw : g < w.heap.size := by obtain ⟨g', o, h, h', _⟩ := ho.lks r hrl; injection h with h; injection h with h; subst h; exact h'
  have hcell : ∀ j, j < 6 → w.cell? ⟨g, r * 6 + j, none⟩ = (Lk.vals (ks.getD r Lk.zero))[j]? ∧ w.frozen? ⟨g, r * 6 + j, none⟩ = false := fun j hj => by
    have hv : (Lk.vals (ks.getD r Lk.zero))[j]? = some ((Lk.vals (ks.getD r Lk.zero))[j]'(by simpa [Lk.vals] using hj)) := List.getElem?_eq_getElem _
    have := World.ownsRow.cells ho (g := g) rfl (r * 6 + j) _ ((flatK_get ks r j hrl hj).trans hv)
    rw [add_plain, Nat.zero_add] at this
    refine ⟨by rw [hv]; exact this, ?_⟩
    rcases ho.2 with ⟨h4, _⟩ | ⟨g', C', cur, h4, _, h3, _⟩
    · cases h4
    · injection h4 with h4; injection h4 with h4; injection h4 with h4; subst h4; simp [World.frozen?, h3]
  have hcc := hcell (2 + k) (by omega)
  rw [vals_cnt _ k hk, hc, ← Nat.add_assoc] at hcc
  have hcs : w.cell? ⟨g, r * 6 + 1, none⟩ = some (.int .i16 s) ∧ w.frozen? ⟨g, r * 6 + 1, none⟩ = false := by
    have := hcell 1 (by omega)
    rw [← hs]
    exact this
  have hrn2 : r < n := by omega
  have hn5 : n ≤ 5000 := by rw [hl]; exact hg.2.1
  have hwc : IntKind.i32.wrap (c + by_) = c' := by rw [hc', IntKind.wrap_i32]; omega
  have hwb : IntKind.i32.wrap by_ = by_ := by rw [IntKind.wrap_i32]; omega
  have hkI : (k : Int) < 4 := by omega
  have HFIN : Hid (∀ w1, Below w.heap.size w w1 → ∀ W, W.heap = ((w1.setCell ⟨g, r * 6 + 2 + k, none⟩ (.int .i32 c')).setCell ⟨g, r * 6 + 1, none⟩ (.int .i16 s1)).heap → W.os = w1.os → W.tape = w1.tape → W.output = w1.output →
      OwnK B W (.slice (some ⟨g, 0, none⟩) n cap) (ks.set r (setkK (setcK (ks.getD r Lk.zero) k c') s1)) ∧ Fr (fun h => h = g) w W) := Lib.hid fun w1 hb W hW q1 q2 q3 => by
    have ho1 : OwnK B w1 (.slice (some ⟨g, 0, none⟩) n cap) ks := own_blk ho (hb.block g hgw)
    have hlen := flatK_len ks
    have hv1 : flatK (ks.set r (setcK (ks.getD r Lk.zero) k c')) = (flatK ks).set (r * 6 + 2 + k) (.int .i32 c') := by
      rw [Nat.add_assoc]
      exact flatK_set ks r (2 + k) _ _ hrl (by omega) (vals_setc _ k hk c')
    have hgd : ∀ y : Lk, (ks.set r y).getD r Lk.zero = y := fun y => by simp [List.getD_eq_getElem?_getD, hrl]
    have hss : ∀ y z : Lk, (ks.set r y).set r z = ks.set r z := fun y z => by simp
    have hv2 : ∀ s3 : Int, flatK (ks.set r (setkK (setcK (ks.getD r Lk.zero) k c') s3)) = ((flatK ks).set (r * 6 + 2 + k) (.int .i32 c')).set (r * 6 + 1) (.int .i16 s3) := fun s3 => by
      have := flatK_set (ks.set r (setcK (ks.getD r Lk.zero) k c')) r 1 (setkK (setcK (ks.getD r Lk.zero) k c') s3) (.int .i16 s3) (by simpa using hrl) (by omega) (by rw [hgd]; rfl)
      rw [hss, hv1] at this
      exact this
    have h3 := own_set (own_set ho1 (r * 6 + 2 + k) (.int .i32 c')) (r * 6 + 1) (.int .i16 s1)
    rw [← hv2] at h3
    refine ⟨own_blk (w := (w1.setCell ⟨g, r * 6 + 2 + k, none⟩ (.int .i32 c')).setCell ⟨g, r * 6 + 1, none⟩ (.int .i16 s1)) ?_ (by rw [hW]), ⟨q1.trans hb.os, q2.trans hb.tape, q3.trans hb.output, ?_, fun h hlt hn => ?_⟩⟩
    · rw [List.length_set]
      exact h3
    · rw [hW]; simp only [World.setCell, Array.size_modify]; exact hb.size
    · rw [hW, Below.heap_setCell _ _ _ _ hn, Below.heap_setCell _ _ _ _ hn]
      exact hb.block h hlt
  clear ho hg hr hrl hrn hc hs hcell hl hby hc' hcb
  obtain ⟨e0, e1⟩ := hcc
  obtain ⟨e2, e3⟩ := hcs
  go_enter Try.func23, Try.ntmps23
  go_wp2_with fail
  refine (HBS.out).mono ?_
  rintro e w1 ⟨rfl, hb⟩
  have HB1 := Lib.hid hb
  have b0 := (hb.cell (p := ⟨nb, i, none⟩) hnb).trans hV
  have b1 := (hb.cell (p := ⟨g, _, none⟩) hgw).trans e0
  have b2 := (hb.cell (p := ⟨g, _, none⟩) hgw).trans e2
  have b3 := (World.frozen?_of_block (a := ⟨g, r * 6 + 2 + k, none⟩) (hb.block g hgw)).trans e1
  have b4 := (World.frozen?_of_block (a := ⟨g, r * 6 + 1, none⟩) (hb.block g hgw)).trans e3
  clear hb e0 e1 e2 e3 hV HBS
  go_wp2_with fail
  go_region
  go_wp2_with fail
  have hne1 : ¬ (r * 6 + 2 + k = r * 6 + 1) := by omega
  have hne2 : ¬ (r * 6 + 1 = r * 6 + 2 + k) := by omega
  have hx : ((w1.setCell ⟨g, r * 6 + 2 + k, none⟩ (.int .i32 c')).setCell ⟨g, r * 6 + 1, none⟩ (.int .i16 s1)).cell? ⟨g, r * 6 + 1, none⟩ = some (.int .i16 s1) := World.cell?_setCell_same _ _ _ ((World.cell?_setCell_other _ _ _ _ (by first | (simp; done) | (simp; omega))).trans b2)
  go_region
  go_wp2
  have hf := HFIN.out w1 HB1.out
  exact bodyPost_end (v := .tuple #[]) (results_none rfl _ _ _) rfl ⟨rfl, hf _ rfl rfl rfl rfl⟩
end Go.Proofs.Ytimgdkafennohaa.Ln
namespace Go.Proofs.Ytimgdkafennohaa.Ln
open Go.ChangeShapes Go.WideShapes Go.ChangeAt Go.RowKit Base Ro F
def outK (ks : List Lk) (r : Nat) : List Lk := ks.take r ++ ks.drop (r + 1)
theorem outK_len {ks : List Lk} {r : Nat} (h : r < ks.length) : (outK ks r).length = ks.length - 1 := by
  simp [outK]; omega
theorem flatK_take : ∀ (ks : List Lk) (r : Nat), flatK (ks.take r) = (flatK ks).take (r * 6)
  | [], r => by simp [flatK]
  | x :: l, 0 => by simp [flatK]
  | x :: l, r + 1 => by
    have := flatK_take l r
    unfold flatK at this ⊢
    rw [List.take_succ_cons, List.flatMap_cons, List.flatMap_cons, this, show (r + 1) * 6 = (Lk.vals x).length + r * 6 by simp [Lk.vals]; omega, List.take_length_add_append]
theorem flatK_drop : ∀ (ks : List Lk) (r : Nat), flatK (ks.drop r) = (flatK ks).drop (r * 6)
  | [], r => by simp [flatK]
  | x :: l, 0 => by simp [flatK]
  | x :: l, r + 1 => by
    have := flatK_drop l r
    unfold flatK at this ⊢
    rw [List.drop_succ_cons, List.flatMap_cons, this, show (r + 1) * 6 = (Lk.vals x).length + r * 6 by simp [Lk.vals]; omega, List.drop_length_add_append]
theorem flatK_out (ks : List Lk) (r : Nat) : (flatK ks).take (r * 6) ++ (flatK ks).drop ((r + 1) * 6) = flatK (outK ks r) := by
  rw [← flatK_take, ← flatK_drop]
  simp [flatK, outK]
theorem outK_set (ks : List Lk) (r : Nat) (y : Lk) : outK (ks.set r y) r = outK ks r := by
  unfold outK
  rw [List.take_set_of_le (Nat.le_refl r), List.drop_set_of_lt (Nat.lt_succ_self r)]
/-- What a change leaves in the place of the links. -/
def ChgP (B nb i : Nat) (V : Value) (ks' : List Lk) (w : World) (e : Ending) (w' : World) : Prop :=
  e = .returned (.tuple #[]) ∧ ∃ V', OwnK B w' V' ks' ∧ (V'.ownBlock = V.ownBlock ∨ ∃ g', V'.ownBlock = some g' ∧ w.heap.size ≤ g') ∧ w'.heap[nb]? = (w.setCell ⟨nb, i, none⟩ V').heap[nb]? ∧ Fr (fun h => V.ownBlock = some h ∨ h = nb) w w'
set_option maxHeartbeats 4000000 in
set_option maxRecDepth 100000 in
theorem chg_out {B nb i g n cap r k : Nat} {ks : List Lk} {node by_ c c' s s1 bit : Int} (w : World) (hl : n = ks.length) (hV : w.cell? ⟨nb, i, none⟩ = some (.slice (some ⟨g, 0, none⟩) n cap)) (hnb : nb < w.heap.size) (ho : OwnK B w (.slice (some ⟨g, 0, none⟩) n cap) ks) (hg : GoodK ks) (hr : Fst (geK ks node) ks.length r) (hrl : r < ks.length) (hrn : (ks.getD r Lk.zero).nd = node)
    (hk : k < 4) (hc : cntK (ks.getD r Lk.zero) k = c) (hs : (ks.getD r Lk.zero).ks = s) (hby : -1 ≤ by_ ∧ by_ ≤ 1) (hcb : 0 ≤ c ∧ c ≤ 1000000) (hc' : c' = c + by_) (hpos : ¬ 0 < c') (hbit : IntKind.i16.wrap (2 ^ k) = bit) (h1 : bits .andNot .i16 s bit = s1) (hz : s1 = 0) (hnbg : nb ≠ g) (hfz : w.frozen? ⟨nb, i, none⟩ = false) :
    Calls Try.prog 23 #[.pointer (some ⟨nb, i, none⟩), .int .i64 node, .int .i64 (k : Int), .int .i64 by_] w (ChgP B nb i (.slice (some ⟨g, 0, none⟩) n cap) (outK ks r) w) := by
  subst hz
  have HBS := Lib.hid (bsearch_k (some ⟨g, 0, none⟩) cap ks node r w (by have := hg.2.1; omega) ho.lks hg.2.2 hg.1 hr)
  rw [decide_eq_true ⟨hrl, hrn⟩, ← hl] at HBS
  have hgw : g < w.heap.size := by obtain ⟨g', o, h, h', _⟩ := ho.lks r hrl; injection h with h; injection h with h; subst h; exact h'
  have hcell : ∀ j, j < 6 → w.cell? ⟨g, r * 6 + j, none⟩ = (Lk.vals (ks.getD r Lk.zero))[j]? ∧ w.frozen? ⟨g, r * 6 + j, none⟩ = false := fun j hj => by
    have hv : (Lk.vals (ks.getD r Lk.zero))[j]? = some ((Lk.vals (ks.getD r Lk.zero))[j]'(by simpa [Lk.vals] using hj)) := List.getElem?_eq_getElem _
    have := World.ownsRow.cells ho (g := g) rfl (r * 6 + j) _ ((flatK_get ks r j hrl hj).trans hv)
    rw [add_plain, Nat.zero_add] at this
    refine ⟨by rw [hv]; exact this, ?_⟩
    rcases ho.2 with ⟨h4, _⟩ | ⟨g', C', cur, h4, _, h3, _⟩
    · cases h4
    · injection h4 with h4; injection h4 with h4; injection h4 with h4; subst h4; simp [World.frozen?, h3]
  have hcc := hcell (2 + k) (by omega)
  rw [vals_cnt _ k hk, hc, ← Nat.add_assoc] at hcc
  have hcs : w.cell? ⟨g, r * 6 + 1, none⟩ = some (.int .i16 s) ∧ w.frozen? ⟨g, r * 6 + 1, none⟩ = false := by
    have := hcell 1 (by omega)
    rw [← hs]
    exact this
  have hrn2 : r < n := by omega
  have hn5 : n ≤ 5000 := by rw [hl]; exact hg.2.1
  have hwc : IntKind.i32.wrap (c + by_) = c' := by rw [hc', IntKind.wrap_i32]; omega
  have hwb : IntKind.i32.wrap by_ = by_ := by rw [IntKind.wrap_i32]; omega
  have hkI : (k : Int) < 4 := by omega
  have HFIN : Hid (∀ w1, Below w.heap.size w w1 → ∀ W, W.heap = ((w1.setCell ⟨g, r * 6 + 2 + k, none⟩ (.int .i32 c')).setCell ⟨g, r * 6 + 1, none⟩ (.int .i16 0)).heap → W.os = w1.os → W.tape = w1.tape → W.output = w1.output →
      Calls Try.prog 37 #[.slice (some ⟨g, 0, none⟩) n cap, .int .i64 r, .int .i64 ((r : Int) + 1)] W fun e w' =>
        ∃ n' cap', e = .returned (.slice (some ⟨g, 0, none⟩) n' cap') ∧ w'.cell? ⟨nb, i, none⟩ = some (.slice (some ⟨g, 0, none⟩) n cap) ∧ w'.frozen? ⟨nb, i, none⟩ = false ∧ ChgP B nb i (.slice (some ⟨g, 0, none⟩) n cap) (outK ks r) w (.returned (.tuple #[])) (w'.setCell ⟨nb, i, none⟩ (.slice (some ⟨g, 0, none⟩) n' cap'))) := Lib.hid fun w1 hb W hW q1 q2 q3 => by
    have ho1 : OwnK B w1 (.slice (some ⟨g, 0, none⟩) n cap) ks := own_blk ho (hb.block g hgw)
    have hlen := flatK_len ks
    have hv1 : flatK (ks.set r (setcK (ks.getD r Lk.zero) k c')) = (flatK ks).set (r * 6 + 2 + k) (.int .i32 c') := by
      rw [Nat.add_assoc]
      exact flatK_set ks r (2 + k) _ _ hrl (by omega) (vals_setc _ k hk c')
    have hgd : ∀ y : Lk, (ks.set r y).getD r Lk.zero = y := fun y => by simp [List.getD_eq_getElem?_getD, hrl]
    have hss : ∀ y z : Lk, (ks.set r y).set r z = ks.set r z := fun y z => by simp
    have hv2 : ∀ s3 : Int, flatK (ks.set r (setkK (setcK (ks.getD r Lk.zero) k c') s3)) = ((flatK ks).set (r * 6 + 2 + k) (.int .i32 c')).set (r * 6 + 1) (.int .i16 s3) := fun s3 => by
      have := flatK_set (ks.set r (setcK (ks.getD r Lk.zero) k c')) r 1 (setkK (setcK (ks.getD r Lk.zero) k c') s3) (.int .i16 s3) (by simpa using hrl) (by omega) (by rw [hgd]; rfl)
      rw [hss, hv1] at this
      exact this
    have h3 := own_set (own_set ho1 (r * 6 + 2 + k) (.int .i32 c')) (r * 6 + 1) (.int .i16 0)
    rw [← hv2] at h3
    have hoW : OwnK B W (.slice (some ⟨g, 0, none⟩) n cap) (ks.set r (setkK (setcK (ks.getD r Lk.zero) k c') 0)) := own_blk (w := (w1.setCell ⟨g, r * 6 + 2 + k, none⟩ (.int .i32 c')).setCell ⟨g, r * 6 + 1, none⟩ (.int .i16 0)) (by rw [List.length_set]; exact h3) (by rw [hW])
    have hfr : Fr (fun h => h = g) w W := by
      refine ⟨q1.trans hb.os, q2.trans hb.tape, q3.trans hb.output, ?_, fun h hlt hn => ?_⟩
      · rw [hW]; simp only [World.setCell, Array.size_modify]; exact hb.size
      · rw [hW, Below.heap_setCell _ _ _ _ hn, Below.heap_setCell _ _ _ _ hn]
        exact hb.block h hlt
    have hln : (ks.set r (setkK (setcK (ks.getD r Lk.zero) k c') 0)).length = n := by rw [List.length_set, hl]
    unfold OwnK at hoW
    rw [hln] at hoW
    refine (delK hoW r hrn2 (by omega) (oneK _)).mono ?_
    rintro e w' ⟨v', rfl, ho', hg', hat⟩
    rw [flatK_out, outK_set] at ho'
    have hf' : Fr (fun h => h = g) w w' := hfr.trans (Fr.of_grown (F := fun h => h = g) hg' (fun k hk => (Option.some.inj hk).symm)) (fun _ _ h => h)
    have hbk := hf'.block hnb hnbg
    rcases ho'.2 with ⟨rfl, h4⟩ | ⟨g', c2, cur, rfl, h5⟩
    · simp [Value.ownBlock] at hat
    · have : g' = g := by simpa [Value.ownBlock] using hat
      subst this
      refine ⟨n - 1, c2, rfl, ?_, ?_, rfl, .slice (some ⟨g', 0, none⟩) (n - 1) c2, ?_, .inl rfl, ?_, ?_⟩
      · simp only [World.cell?, hbk] at hV ⊢
        exact hV
      · simp only [World.frozen?, hbk] at hfz ⊢
        exact hfz
      · have := own_blk (w' := w'.setCell ⟨nb, i, none⟩ (.slice (some ⟨g', 0, none⟩) (n - 1) c2)) ho' (Below.heap_setCell _ _ _ _ (Ne.symm hnbg))
        unfold OwnK
        rw [outK_len hrl, ← hl]
        exact this
      · simp only [World.setCell, Array.getElem?_modify, if_true]
        rw [hbk]
      · refine ⟨hf'.1, hf'.2.1, hf'.2.2.1, ?_, fun h hlt hn => ?_⟩
        · simp only [World.setCell, Array.size_modify]; exact hf'.2.2.2.1
        · rw [Below.heap_setCell _ _ _ _ (fun e => hn (.inr e)), hf'.block hlt (fun e => hn (.inl (by rw [e]; rfl)))]
  clear ho hg hr hrl hrn hc hs hcell hl hby hc' hcb hfz
  generalize ChgP B nb i (.slice (some ⟨g, 0, none⟩) n cap) (outK ks r) w = Post at HFIN ⊢
  have hrx : IntKind.i64.wrap ((r : Int) + 1) = (r : Int) + 1 := by rw [IntKind.wrap_i64]; omega
  obtain ⟨e0, e1⟩ := hcc
  obtain ⟨e2, e3⟩ := hcs
  go_enter Try.func23, Try.ntmps23
  go_wp2_with fail
  refine (HBS.out).mono ?_
  rintro e w1 ⟨rfl, hb⟩
  have HB1 := Lib.hid hb
  have b0 := (hb.cell (p := ⟨nb, i, none⟩) hnb).trans hV
  have b1 := (hb.cell (p := ⟨g, _, none⟩) hgw).trans e0
  have b2 := (hb.cell (p := ⟨g, _, none⟩) hgw).trans e2
  have b3 := (World.frozen?_of_block (a := ⟨g, r * 6 + 2 + k, none⟩) (hb.block g hgw)).trans e1
  have b4 := (World.frozen?_of_block (a := ⟨g, r * 6 + 1, none⟩) (hb.block g hgw)).trans e3
  clear hb e0 e1 e2 e3 hV HBS
  go_wp2_with fail
  go_region
  go_wp2_with fail
  have hne1 : ¬ (r * 6 + 2 + k = r * 6 + 1) := by omega
  have hne2 : ¬ (r * 6 + 1 = r * 6 + 2 + k) := by omega
  have hx : ((w1.setCell ⟨g, r * 6 + 2 + k, none⟩ (.int .i32 c')).setCell ⟨g, r * 6 + 1, none⟩ (.int .i16 0)).cell? ⟨g, r * 6 + 1, none⟩ = some (.int .i16 0) := World.cell?_setCell_same _ _ _ ((World.cell?_setCell_other _ _ _ _ (by first | (simp; done) | (simp; omega))).trans b2)
  go_region
  go_wp2_with fail
  have hf := HFIN.out w1 HB1.out
  refine Calls.mono (hf _ rfl rfl rfl rfl) ?_
  rintro e w4 ⟨n', cap', rfl, z0, z1, z2⟩
  have Z2 := Lib.hid z2
  clear z2
  go_wp2
  exact bodyPost_end (v := .tuple #[]) (results_none rfl _ _ _) rfl Z2.out
end Go.Proofs.Ytimgdkafennohaa.Ln
