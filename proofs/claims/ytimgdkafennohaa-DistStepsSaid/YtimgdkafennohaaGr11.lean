/-
  Contracts of digraphs: Next, Prev. Not a statement of the seat.
-/
import Derived.Test.YtimgdkafennohaaHead13
import Derived.Test.YtimgdkafennohaaLk8
namespace Go.Proofs.Ytimgdkafennohaa.Gr
open Go.ChangeShapes Go.WideShapes Go.ChangeAt Go.RowKit Base Ro F Dl Ln
theorem bitsOf_bd (f : Nat → Int) : 0 ≤ bitsOf f ∧ bitsOf f ≤ 15 := by
  unfold bitsOf
  refine ⟨?_, ?_⟩ <;> (repeat' split) <;> omega
theorem canK_bd (cnt : Nat → Nat → Int) {N : Nat} (hN : N ≤ 5000) (k : Nat) (hk : k < (canK cnt (List.range N)).length) : (-32768 ≤ ((canK cnt (List.range N)).getD k Lk.zero).nd ∧ ((canK cnt (List.range N)).getD k Lk.zero).nd ≤ 32767) ∧ (-32768 ≤ ((canK cnt (List.range N)).getD k Lk.zero).ks ∧ ((canK cnt (List.range N)).getD k Lk.zero).ks ≤ 32767) := by
  refine ⟨(canK_good cnt hN).2.2 k hk, ?_⟩
  have hm := List.getElem_mem hk
  obtain ⟨n, _, _, h2⟩ := canK_mem hm
  rw [List.getD_eq_getElem?_getD, List.getElem?_eq_getElem hk, Option.getD_some, h2]
  have := bitsOf_bd (cnt n)
  show -32768 ≤ bitsOf (cnt n) ∧ bitsOf (cnt n) ≤ 32767
  omega
theorem own_less {B B' : Nat} {w : World} {v : Value} {zs : List Int} (h : Lst.OwnI B w v zs) (hb : B' ≤ B) : Lst.OwnI B' w v zs := by
  refine ⟨h.1, ?_⟩
  rcases h.2 with h2 | ⟨g, cap, cur, h1, h2, h3⟩
  · exact .inl h2
  · exact .inr ⟨g, cap, cur, h1, Nat.le_trans hb h2, h3⟩
/-- The nodes on a side of one. -/
def sideL (cnt : Bool → Nat → Nat → Nat → Int) (s : Bool) (n a : Nat) (mask : Int) : List Int := ofK (canK (cnt s a) (List.range n)) mask
theorem next_out {w : World} {pv : Value} {m n : Nat} (h : GrV w pv m n) {x : Int} (hx : ¬ (0 ≤ x ∧ x < (n : Int))) (mask : Int) : Calls Try.prog 7 #[pv, .int .i64 x, .int .i64 mask] w (HeldP (.slice none 0 0) w) := by
  have HN := Lib.hid (isNode_any h x)
  rw [decide_eq_false hx] at HN
  clear h hx
  go_enter Try.func7, Try.ntmps7
  go_wp2_with fail
  refine HN.out.mono ?_
  rintro e w' ⟨rfl, hb⟩
  go_wp2
  go_ret
  exact ⟨rfl, hb⟩
set_option maxHeartbeats 2000000 in
theorem next_in {w : World} {B b n : Nat} {xs : List Nat} {nbs : Bool → Nat} {Vs : Bool → Nat → Value} {cnt : Bool → Nat → Nat → Nat → Int} (h : GS w B b n xs nbs Vs cnt) (hn : n ≤ 4096) {a : Nat} (ha : a < n) (mask : Int) :
    Calls Try.prog 7 #[.pointer (some ⟨b, 0, none⟩), .int .i64 (a : Int), .int .i64 mask] w fun e w' => (∃ v, e = .returned v ∧ Lst.OwnI w.heap.size w' v (sideL cnt true n a mask)) ∧ Below w.heap.size w w' := by
  have HN := Lib.hid (isNode_any h.v (a : Int))
  rw [decide_eq_true (by omega)] at HN
  obtain ⟨p, cap, hV⟩ := ownK_form (h.lk true a ha)
  have HO : Hid (∀ Y, Below w.heap.size w Y → Calls Try.prog 16 #[.slice p (canK (cnt true a) (List.range n)).length cap, .int .i64 mask] Y fun e w' => (∃ v, e = .returned v ∧ Lst.OwnI w.heap.size w' v (sideL cnt true n a mask)) ∧ Below w.heap.size w w') := Lib.hid fun Y hY => by
    have hk := (h.below hY).lk true a ha
    rw [hV] at hk
    have hl := canK_len (cnt true a) (List.range n)
    rw [List.length_range] at hl
    refine (of_any mask Y rfl hk.lks (by omega) (canK_bd (cnt true a) (by omega))).mono ?_
    rintro e w' ⟨⟨v, he, ho⟩, hb⟩
    exact ⟨⟨v, he, own_less ho hY.size⟩, hY.trans (hb.mono hY.size)⟩
  have HC : Hid (∀ Y, Below w.heap.size w Y → Y.cell? ⟨b, 2, none⟩ = some (.slice (some ⟨nbs true, 0, none⟩) n n) ∧ Y.cell? ⟨nbs true, a, none⟩ = some (.slice p (canK (cnt true a) (List.range n)).length cap)) := Lib.hid fun Y hY => by
    obtain ⟨V, h1, _⟩ := (h.below hY).own
    have hr := (h.below hY).row true
    obtain ⟨_, _, h4, h5, _⟩ := gr_cells h1
    refine ⟨h4, ?_⟩
    rw [← hV]
    simp [World.cell?, hr, ha]
  generalize sideL cnt true n a mask = zs at *
  generalize (canK (cnt true a) (List.range n)).length = ln at *
  generalize nbs true = nb at *
  have ha2 : (a : Int) < (n : Int) := by omega
  clear h hV hn
  go_enter Try.func7, Try.ntmps7
  go_wp2_with fail
  refine HN.out.mono ?_
  rintro e w1 ⟨rfl, hb⟩
  obtain ⟨c2, c3⟩ := HC.out w1 hb
  have HO1 := Lib.hid (HO.out w1 hb)
  clear hb HN HC HO
  go_wp2_with fail
  refine HO1.out.mono ?_
  rintro e w2 ⟨⟨v, rfl, ho⟩, hb⟩
  have HR := Lib.hid (And.intro ho hb)
  clear ho hb HO1
  go_wp2
  go_ret
  exact ⟨⟨_, rfl, HR.out.1⟩, HR.out.2⟩
theorem prev_out {w : World} {pv : Value} {m n : Nat} (h : GrV w pv m n) {x : Int} (hx : ¬ (0 ≤ x ∧ x < (n : Int))) (mask : Int) : Calls Try.prog 44 #[pv, .int .i64 x, .int .i64 mask] w (HeldP (.slice none 0 0) w) := by
  have HN := Lib.hid (isNode_any h x)
  rw [decide_eq_false hx] at HN
  clear h hx
  go_enter Try.func44, Try.ntmps44
  go_wp2_with fail
  refine HN.out.mono ?_
  rintro e w' ⟨rfl, hb⟩
  go_wp2
  go_ret
  exact ⟨rfl, hb⟩
set_option maxHeartbeats 2000000 in
theorem prev_in {w : World} {B b n : Nat} {xs : List Nat} {nbs : Bool → Nat} {Vs : Bool → Nat → Value} {cnt : Bool → Nat → Nat → Nat → Int} (h : GS w B b n xs nbs Vs cnt) (hn : n ≤ 4096) {a : Nat} (ha : a < n) (mask : Int) :
    Calls Try.prog 44 #[.pointer (some ⟨b, 0, none⟩), .int .i64 (a : Int), .int .i64 mask] w fun e w' => (∃ v, e = .returned v ∧ Lst.OwnI w.heap.size w' v (sideL cnt false n a mask)) ∧ Below w.heap.size w w' := by
  have HN := Lib.hid (isNode_any h.v (a : Int))
  rw [decide_eq_true (by omega)] at HN
  obtain ⟨p, cap, hV⟩ := ownK_form (h.lk false a ha)
  have HO : Hid (∀ Y, Below w.heap.size w Y → Calls Try.prog 16 #[.slice p (canK (cnt false a) (List.range n)).length cap, .int .i64 mask] Y fun e w' => (∃ v, e = .returned v ∧ Lst.OwnI w.heap.size w' v (sideL cnt false n a mask)) ∧ Below w.heap.size w w') := Lib.hid fun Y hY => by
    have hk := (h.below hY).lk false a ha
    rw [hV] at hk
    have hl := canK_len (cnt false a) (List.range n)
    rw [List.length_range] at hl
    refine (of_any mask Y rfl hk.lks (by omega) (canK_bd (cnt false a) (by omega))).mono ?_
    rintro e w' ⟨⟨v, he, ho⟩, hb⟩
    exact ⟨⟨v, he, own_less ho hY.size⟩, hY.trans (hb.mono hY.size)⟩
  have HC : Hid (∀ Y, Below w.heap.size w Y → Y.cell? ⟨b, 3, none⟩ = some (.slice (some ⟨nbs false, 0, none⟩) n n) ∧ Y.cell? ⟨nbs false, a, none⟩ = some (.slice p (canK (cnt false a) (List.range n)).length cap)) := Lib.hid fun Y hY => by
    obtain ⟨V, h1, _⟩ := (h.below hY).own
    have hr := (h.below hY).row false
    obtain ⟨_, _, h4, h5, _⟩ := gr_cells h1
    refine ⟨h5, ?_⟩
    rw [← hV]
    simp [World.cell?, hr, ha]
  generalize sideL cnt false n a mask = zs at *
  generalize (canK (cnt false a) (List.range n)).length = ln at *
  generalize nbs false = nb at *
  have ha2 : (a : Int) < (n : Int) := by omega
  clear h hV hn
  go_enter Try.func44, Try.ntmps44
  go_wp2_with fail
  refine HN.out.mono ?_
  rintro e w1 ⟨rfl, hb⟩
  obtain ⟨c2, c3⟩ := HC.out w1 hb
  have HO1 := Lib.hid (HO.out w1 hb)
  clear hb HN HC HO
  go_wp2_with fail
  refine HO1.out.mono ?_
  rintro e w2 ⟨⟨v, rfl, ho⟩, hb⟩
  have HR := Lib.hid (And.intro ho hb)
  clear ho hb HO1
  go_wp2
  go_ret
  exact ⟨⟨_, rfl, HR.out.1⟩, HR.out.2⟩
end Go.Proofs.Ytimgdkafennohaa.Gr
