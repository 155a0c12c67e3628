/-
  Contracts of the document's digraphs: Same, In, bit, Of, Out, Drop, Less, Right. Not a statement of the seat.
-/
import Derived.Test.YtpgfkggfgkafjaaHead12
import Derived.Test.YtpgfkggfgkafjaaHead8
import Derived.Deep.QuietTactic
import Derived.BigQuiet
namespace Go.Proofs.Ytpgfkggfgkafjaa.Gr
open Go.ChangeShapes Go.WideShapes Go.ChangeAt Go.RowKit Base F Rf
open Go.Proofs.Ytpgfkggfgkafjaa.Tx (Aft Aft.refl Aft.lay Aft.trans Aft.one Aft.cell Aft.drew BoolNew)
instance : DecidableEq Arc := fun x y => decidable_of_iff (Arc.beq x y = true) (Arc.beq_iff x y)
def bxA (x : Arc) : Obj := .cells #[.int .i64 x.fr, .int .i64 x.to, .int .i64 x.kd, .int .i64 x.lb] 29
def vA (x : Arc) : Value := .agg #[.int .i64 x.fr, .int .i64 x.to, .int .i64 x.kd, .int .i64 x.lb]
theorem cellsA {w : World} {g : Nat} {b : Arc} (h : w.heap[g]? = some (bxA b)) : w.cell? ⟨g, 0, none⟩ = some (.int .i64 b.fr) ∧ w.cell? ⟨g, 1, none⟩ = some (.int .i64 b.to) ∧ w.cell? ⟨g, 2, none⟩ = some (.int .i64 b.kd) ∧ w.cell? ⟨g, 3, none⟩ = some (.int .i64 b.lb) := by
  unfold bxA at h
  simp [World.cell?, h]
def RA (w wr : World) (v : Value) (zs : List Arc) : Prop := Aft w wr ∧ OwnArc w.heap.size wr v zs
theorem RA.aft {w wr W : World} {v : Value} {zs : List Arc} (h : RA w wr v zs) (ha : Aft wr W) : RA w W v zs := ⟨h.1.trans ha, h.2.below ha⟩
theorem RA.lay {w wr : World} {v : Value} {zs : List Arc} (h : RA w wr v zs) (o : Obj) : RA w (wr.alloc o) v zs := h.aft (Aft.one o)
theorem RA.app {w wr W : World} {v v' : Value} {zs zs' : List Arc} (h : RA w wr v zs) (ho : OwnArc w.heap.size W v' zs') (hg : wr.grownBy W v.ownBlock) : RA w W v' zs' := ⟨Below.grown h.1 hg h.1.size (fun q hq => (h.2.base q hq).1), ho⟩
theorem ownA_less {B B' : Nat} {w : World} {v : Value} {zs : List Arc} (h : OwnArc B w v zs) (hb : B' ≤ B) : OwnArc B' w v zs := by
  refine ⟨h.1, ?_⟩
  rcases h.2 with h2 | ⟨g, cap, cur, h1, h2, h3⟩
  · exact .inl h2
  · exact .inr ⟨g, cap, cur, h1, Nat.le_trans hb h2, h3⟩
/-- The same, with a box of the call's own at the first new place. -/
def RB (w : World) (a : Arc) (wr : World) (v : Value) (zs : List Arc) : Prop := Aft w wr ∧ OwnArc (w.heap.size + 1) wr v zs ∧ wr.heap[w.heap.size]? = some (bxA a)
theorem RB.aft {w wr W : World} {a : Arc} {v : Value} {zs : List Arc} (h : RB w a wr v zs) (ha : Aft wr W) : RB w a W v zs := ⟨h.1.trans ha, h.2.1.below ha, (ha.block _ (heap_lt h.2.2)).trans h.2.2⟩
theorem RB.lay {w wr : World} {a : Arc} {v : Value} {zs : List Arc} (h : RB w a wr v zs) (o : Obj) : RB w a (wr.alloc o) v zs := h.aft (Aft.one o)
theorem RB.app {w wr W : World} {a : Arc} {v v' : Value} {zs zs' : List Arc} (h : RB w a wr v zs) (ho : OwnArc (w.heap.size + 1) W v' zs') (hg : wr.grownBy W v.ownBlock) : RB w a W v' zs' :=
  ⟨Below.grown h.1 hg h.1.size (fun q hq => by have := (h.2.1.base q hq).1; omega), ho, (hg.block _ (heap_lt h.2.2) (fun e => by have := (h.2.1.base _ e.symm).1; omega)).trans h.2.2⟩
theorem RB.sz {w wr : World} {a : Arc} {v : Value} {zs : List Arc} (h : RB w a wr v zs) : w.heap.size + 1 ≤ wr.heap.size := heap_lt h.2.2
theorem RB.ra {w wr : World} {a : Arc} {v : Value} {zs : List Arc} (h : RB w a wr v zs) : RA w wr v zs := ⟨h.1, ownA_less h.2.1 (by omega)⟩
theorem RB.start (w : World) (a : Arc) : RB w a (w.alloc (bxA a)) (.slice none 0 0) [] := ⟨Aft.one _, OwnArc.nil _ _, heap_alloc_at _ _ _ rfl⟩
/-- What a call that tells a new list of arcs leaves. -/
def ArcsP (zs : List Arc) (w : World) (e : Ending) (w' : World) : Prop := ∃ v, e = .returned v ∧ RA w w' v zs
/-- Whether two lists are one, walked together. -/
def sameA : List Arc → List Arc → Bool
  | x :: xs, y :: ys => if Arc.beq x y then sameA xs ys else false
  | _, _ => true
theorem sameA_iff : ∀ (xs ys : List Arc), xs.length = ys.length → (sameA xs ys = decide (xs = ys))
  | [], [], _ => by simp [sameA]
  | x :: xs, y :: ys, h => by
    unfold sameA
    by_cases e : x = y
    · subst e
      rw [if_pos (Arc.beq_self x), sameA_iff xs ys (by simpa using h)]
      simp
    · rw [if_neg (fun h => e ((Arc.beq_iff x y).1 h)), decide_eq_false (fun h => e (List.cons.inj h).1)]
  | [], _ :: _, h => by simp at h
  | _ :: _, [], h => by simp at h
set_option maxRecDepth 100000 in
set_option maxHeartbeats 4000000 in
theorem gsame_any {b1 b2 : Nat} {v u : Value} {xs ys : List Arc} (w : World) (h : Arcs b1 w v xs) (hu : Arcs b2 w u ys) : Calls Try.prog 18 #[v, u] w (BoolNew (decide (xs = ys)) w) := by
  obtain ⟨p, c, rfl, hlm, hc⟩ := h.open_
  obtain ⟨p2, c2, rfl, hlm2, hc2⟩ := hu.open_
  by_cases hn : xs.length = ys.length
  · rw [← sameA_iff xs ys hn]
    have hb : ((xs.length : Int) != (ys.length : Int)) = false := by rw [bne_eq_false_iff_eq]; omega
    have HT := Lib.hid hc
    have HU := Lib.hid hc2
    have HN := Lib.hid hn
    have HS0 : Hid (Aft w w ∧ sameA xs ys = sameA (xs.drop 0) (ys.drop 0)) := Lib.hid ⟨Aft.refl w, by simp⟩
    generalize sameA xs ys = r at HS0 ⊢
    clear h hu hc hc2 hn
    go_enter Try.func18, Try.ntmps18
    go_wp2_with fail
    go_loopw [13] (fun s13 wr => ∃ k : Nat, s13 = .int .i64 (k : Int) ∧ k ≤ xs.length ∧ Hid (Aft w wr ∧ r = sameA (xs.drop k) (ys.drop k))) (fun s13 _ => xs.length - (intOf s13).toNat)
    case atStart => exact ⟨0, rfl, Nat.zero_le _, HS0⟩
    case round =>
      clear HS0
      obtain ⟨k, rfl, hk, HS⟩ := hrel
      by_cases hlt : k < xs.length
      · have hlt2 : k < ys.length := by have := HN.out; omega
        obtain ⟨g, o, rfl, _, hg, c0, c1, c2, c3⟩ := HT.out k hlt
        obtain ⟨g', o', rfl, _, hg', d0, d1, d2, d3⟩ := HU.out k hlt2
        have c0 := HS.out.1.cell hg c0
        have c1 := HS.out.1.cell hg c1
        have c2 := HS.out.1.cell hg c2
        have c3 := HS.out.1.cell hg c3
        have d0 := HS.out.1.cell hg' d0
        have d1 := HS.out.1.cell hg' d1
        have d2 := HS.out.1.cell hg' d2
        have d3 := HS.out.1.cell hg' d3
        have HR : Hid (r = if Arc.beq (xs.getD k Arc.zero) (ys.getD k Arc.zero) then sameA (xs.drop (k + 1)) (ys.drop (k + 1)) else false) := Lib.hid (by rw [HS.out.2, drop_cons xs Arc.zero k hlt, drop_cons ys Arc.zero k hlt2]; rfl)
        have hkI : (k : Int) < (xs.length : Int) := by omega
        have hkI2 : (k : Int) < (ys.length : Int) := by omega
        have HSA := Lib.hid HS.out.1
        generalize xs.getD k Arc.zero = x at c0 c1 c2 c3 HR
        generalize ys.getD k Arc.zero = y at d0 d1 d2 d3 HR
        have heq := fun W => ne_arc x y W
        clear HS HT HU hg hg'
        generalize Arc.beq x y = q at HR heq
        obtain ⟨x0, x1, x2, x3⟩ := x
        obtain ⟨y0, y1, y2, y3⟩ := y
        dsimp only at c0 c1 c2 c3 d0 d1 d2 d3 heq
        go_wp2_with fail
        go_quiet (fail)
        cases q with
        | true =>
          have HR2 : Hid (r = sameA (xs.drop (k + 1)) (ys.drop (k + 1))) := Lib.hid (by rw [HR.out]; rfl)
          clear HR
          go_wp2_with fail
          go_roundw
          case rel => exact ⟨k + 1, by go_num, hlt, Lib.hid ⟨HSA.out.drew _, HR2.out⟩⟩
          case measure => simp [intOf]; omega
        | false =>
          have HR2 : Hid (r = false) := Lib.hid (by rw [HR.out]; rfl)
          clear HR
          go_wp2
          go_ret
          exact ⟨ret_bool HR2.out.symm, HSA.out.drew _⟩
      · have hke : k = xs.length := by omega
        subst hke
        have HR : Hid (r = true ∧ Aft w wr) := Lib.hid ⟨by rw [HS.out.2, List.drop_length]; rfl, HS.out.1⟩
        clear HS HT HU hlt hk
        go_wp2_with fail
        go_ret
        exact ⟨ret_bool HR.out.1.symm, HR.out.2⟩
  · have hb : ((xs.length : Int) != (ys.length : Int)) = true := by rw [bne_iff_ne]; omega
    rw [decide_eq_false (fun e => hn (by rw [e]))]
    clear h hu hc hc2 hn
    go_enter Try.func18, Try.ntmps18
    go_wp2
    go_ret
    exact ⟨rfl, Aft.refl _⟩
def inA (xs : List Arc) (a : Arc) : Bool := xs.any (fun x => Arc.beq x a)
theorem inA_iff (xs : List Arc) (a : Arc) : inA xs a = decide (a ∈ xs) := by
  unfold inA
  rw [Bool.eq_iff_iff, List.any_eq_true, decide_eq_true_iff]
  constructor
  · rintro ⟨x, hx, he⟩
    exact (Arc.beq_iff x a).1 he ▸ hx
  · intro h
    exact ⟨a, h, Arc.beq_self a⟩
set_option maxRecDepth 100000 in
set_option maxHeartbeats 4000000 in
theorem gin_any {base : Nat} {v : Value} {xs : List Arc} (a : Arc) (w : World) (h : Arcs base w v xs) : Calls Try.prog 8 #[v, vA a] w (BoolNew (decide (a ∈ xs)) w) := by
  obtain ⟨p, c, rfl, hlm, hc⟩ := h.open_
  have HT := Lib.hid hc
  rw [← inA_iff]
  have HS0 : Hid (Aft w (w.alloc (bxA a)) ∧ (w.alloc (bxA a)).heap[w.heap.size]? = some (bxA a) ∧ inA xs a = inA (xs.drop 0) a) := Lib.hid ⟨Aft.one _, heap_alloc_at _ _ _ rfl, by simp⟩
  generalize inA xs a = r at HS0 ⊢
  unfold bxA at HS0
  unfold vA
  clear h hc
  go_enter Try.func8, Try.ntmps8
  go_wp2_with fail
  go_loopw [9] (fun s9 wr => ∃ k : Nat, s9 = .int .i64 (k : Int) ∧ k ≤ xs.length ∧ Hid (Aft w wr ∧ wr.heap[w.heap.size]? = some (bxA a) ∧ r = inA (xs.drop k) a)) (fun s9 _ => xs.length - (intOf s9).toNat)
  case atStart => exact ⟨0, rfl, Nat.zero_le _, HS0⟩
  case round =>
    clear HS0
    obtain ⟨k, rfl, hk, HS⟩ := hrel
    by_cases hlt : k < xs.length
    · obtain ⟨g, o, rfl, _, hg, c0, c1, c2, c3⟩ := HT.out k hlt
      have c0 := HS.out.1.cell hg c0
      have c1 := HS.out.1.cell hg c1
      have c2 := HS.out.1.cell hg c2
      have c3 := HS.out.1.cell hg c3
      have hg := Nat.lt_of_lt_of_le hg HS.out.1.size
      obtain ⟨d0, d1, d2, d3⟩ := cellsA HS.out.2.1
      have hbl := heap_lt HS.out.2.1
      have HR : Hid (r = (Arc.beq (xs.getD k Arc.zero) a || inA (xs.drop (k + 1)) a)) := Lib.hid (by rw [HS.out.2.2, drop_cons xs Arc.zero k hlt]; rfl)
      have hkI : (k : Int) < (xs.length : Int) := by omega
      have HSL : Hid (∀ o, Aft w (wr.alloc o) ∧ (wr.alloc o).heap[w.heap.size]? = some (bxA a)) := Lib.hid fun o => ⟨HS.out.1.lay o, heap_alloc_lt _ _ _ _ HS.out.2.1⟩
      generalize xs.getD k Arc.zero = x at c0 c1 c2 c3 HR
      have heq := fun W => eq_arc x a W
      clear HS HT
      generalize Arc.beq x a = q at HR heq
      obtain ⟨x0, x1, x2, x3⟩ := x
      simp only at c0 c1 c2 c3 heq
      cases q with
      | true =>
        have HR2 : Hid (r = true) := Lib.hid (by rw [HR.out]; rfl)
        clear HR
        go_wp2_with fail
        go_ret
        exact ⟨ret_bool HR2.out.symm, (HSL.out _).1⟩
      | false =>
        have HR2 : Hid (r = inA (xs.drop (k + 1)) a) := Lib.hid (by rw [HR.out]; rfl)
        clear HR
        go_wp2_with fail
        go_roundw
        case rel => exact ⟨k + 1, by go_num, hlt, Lib.hid ⟨(HSL.out _).1, (HSL.out _).2, HR2.out⟩⟩
        case measure => simp [intOf]; omega
    · have hke : k = xs.length := by omega
      subst hke
      have HR : Hid (r = false ∧ Aft w wr) := Lib.hid ⟨by rw [HS.out.2.2, List.drop_length]; rfl, HS.out.1⟩
      clear HS HT hlt hk
      go_wp2_with fail
      go_ret
      exact ⟨ret_bool HR.out.1.symm, HR.out.2⟩
/-- A mask's bit, as the document asks for it. -/
def rbit (mask : Int) (k : Int) : Bool := !(bits .and .i64 mask (2 ^ k.toNat) == 0)
theorem gbit_any (mask k : Int) (hk : 0 ≤ k ∧ k < 4) (w : World) : Calls Try.prog 33 #[.int .i64 mask, .int .i64 k] w (BoolNew (rbit mask k) w) := by
  have h4 : k = 0 ∨ k = 1 ∨ k = 2 ∨ k = 3 := by omega
  unfold rbit
  have hb : ∀ x : Int, (!(x == 0)) = (x != 0) := fun x => rfl
  rw [hb]
  rcases h4 with rfl | rfl | rfl | rfl
  · go_enter Try.func33, Try.ntmps33
    go_wp2
    go_ret
    exact ⟨rfl, by exact (Aft.one _)⟩
  · go_enter Try.func33, Try.ntmps33
    go_wp2
    go_ret
    exact ⟨rfl, by exact (Aft.one _)⟩
  · go_enter Try.func33, Try.ntmps33
    go_wp2
    go_ret
    exact ⟨rfl, by exact (Aft.one _)⟩
  · go_enter Try.func33, Try.ntmps33
    go_wp2
    go_ret
    exact ⟨rfl, by exact (Aft.one _)⟩
theorem getD_in {xs : List Arc} {k : Nat} (h : k < xs.length) : xs.getD k Arc.zero ∈ xs := by
  rw [List.getD_eq_getElem?_getD, List.getElem?_eq_getElem h]
  exact List.getElem_mem h
end Go.Proofs.Ytpgfkggfgkafjaa.Gr
