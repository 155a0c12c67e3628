/-
  Contracts of small functions, several texts laid into one. Not a statement of the seat.
-/
import Derived.Test.YtakgepdlninnhaaDoorHead11
import Derived.Test.YtakgepdlninnhaaDoorHead18
import Derived.Test.YtakgepdlninnhaaDoorHead3
namespace Go.Proofs.YtakgepdlninnhaaDoor.Cs
open Go.ChangeShapes Go.WideShapes Go.ChangeAt Go.RowKit Base F Bits
variable {B n m : Nat} {k : CB} {w W W' : World} {f : Int × Int → Int} {V : Nat → Nat → Nat} {la : La}
def TabW (w : World) : Prop := TabAt 0 Lib.deBruijn64tab w ∧ 0 < w.heap.size
theorem TabW.below {w w1 : World} (h : TabW w) (hb : Below w.heap.size w w1) : TabW w1 := ⟨fun j hj => (hb.cell (p := ⟨_, j, none⟩) h.2).trans (h.1 j hj), Nat.lt_of_lt_of_le h.2 hb.size⟩
/-- A list of numbers that a call made itself. -/
def IK (W : World) (v : Value) (zs : List Int) : Prop := ((∃ p c, v = .slice p 0 c) ∧ zs = []) ∨ Lst.OwnI 0 W v zs
theorem IK.of_own {B : Nat} {W : World} {v : Value} {zs : List Int} (h : Lst.OwnI B W v zs) : IK W v zs := by
  refine .inr ⟨h.1, ?_⟩
  rcases h.2 with hn | ⟨g, cap, cur, hv, _, rest⟩
  · exact .inl hn
  · exact .inr ⟨g, cap, cur, hv, Nat.zero_le _, rest⟩
theorem IK.ints {W : World} {v : Value} {zs : List Int} (h : IK W v zs) (hl : zs.length ≤ 9223372036854775807) : Lst.Ints 0 W v zs := by
  rcases h with h | h
  · exact .inl h
  · exact h.ints hl
theorem IK.below {W W' : World} {v : Value} {zs : List Int} (h : IK W v zs) (hb : Below W.heap.size W W') : IK W' v zs := by
  rcases h with h | h
  · exact .inl h
  · exact .inr (h.below hb)
/-- A list of numbers. -/
def NumW (w : World) (zs : List Int) (e : Ending) (w' : World) : Prop := ∃ v, e = .returned v ∧ IK w' v zs ∧ Below w.heap.size w w'
def isN (n : Nat) (u : Int) : Bool := decide (0 ≤ u ∧ u < (n : Int))
theorem hasI_eq (n X : Nat) (v : Int) : hasI n X v = (isN n v && X.testBit v.toNat) := rfl
set_option maxRecDepth 100000 in
theorem reaches_any (h : CS B k n w f V la m) (u v : Int) : Calls Tryd.prog 19 #[.pointer (some ⟨k.b, 0, none⟩), .int .i64 u, .int .i64 v] w (HeldP (.bool (isN n u && (isN n v && (V 2 u.toNat).testBit v.toNat))) w) := by
  have HN := Lib.hid (isNode_any h.v u)
  by_cases hu : 0 ≤ u ∧ u < (n : Int)
  · have e : isN n u = true := decide_eq_true hu
    obtain ⟨i, rfl⟩ := Int.eq_ofNat_of_zero_le hu.1
    have hi : i < n := by omega
    rw [e, Bool.true_and, Int.toNat_natCast, ← hasI_eq]
    rw [decide_eq_true hu] at HN
    have HC := Lib.hid h
    have hii : (i : Int) < (n : Int) := hu.2
    have hn4 : (n : Int) ≤ 4096 := by have := h.hn; omega
    clear h e hu
    go_enter Tryd.func19, Tryd.ntmps19
    go_wp2_with fail
    refine HN.out.mono ?_
    rintro e w1 ⟨rfl, hb⟩
    have hcs := HC.out.below hb
    obtain ⟨_, _, _, c3, _⟩ := hcs.cells
    obtain ⟨g, hp, hlt2, hcl⟩ := hcs.way (a := 2) (by omega) hi
    have HHAS := Lib.hid (has_any (k.rb 2 i) (k.rg 2 i) n (V 2 i) v w1 (hcs.row 2 (by omega) i hi))
    have HB := Lib.hid hb
    rw [hp] at c3
    clear hcs hb HN hp
    go_wp2_with fail
    refine HHAS.out.mono ?_
    rintro e w2 ⟨rfl, rfl⟩
    clear HHAS c3 hcl hlt2
    go_wp2
    go_ret
    exact ⟨rfl, HB.out⟩
  · have e : isN n u = false := decide_eq_false hu
    rw [e, Bool.false_and]
    rw [decide_eq_false hu] at HN
    clear h e hu
    go_enter Tryd.func19, Tryd.ntmps19
    go_wp2_with fail
    refine HN.out.mono ?_
    rintro e w1 ⟨rfl, hb⟩
    have HB := Lib.hid hb
    clear hb HN
    go_wp2
    go_ret
    exact ⟨rfl, HB.out⟩
set_option maxRecDepth 100000 in
theorem rowOf_any (h : CS B k n w f V la m) (hT : TabW w) (u : Int) : Calls Tryd.prog 18 #[.pointer (some ⟨k.b, 0, none⟩), .int .i64 u] w (NumW w (if isN n u then rowInts n (V 2 u.toNat) else [])) := by
  have HN := Lib.hid (isNode_any h.v u)
  by_cases hu : 0 ≤ u ∧ u < (n : Int)
  · have e : isN n u = true := decide_eq_true hu
    obtain ⟨i, rfl⟩ := Int.eq_ofNat_of_zero_le hu.1
    have hi : i < n := by omega
    rw [if_pos e, Int.toNat_natCast]
    rw [decide_eq_true hu] at HN
    have HC := Lib.hid h
    have HT := Lib.hid hT
    have hii : (i : Int) < (n : Int) := hu.2
    have hn4 : (n : Int) ≤ 4096 := by have := h.hn; omega
    clear h e hu hT
    go_enter Tryd.func18, Tryd.ntmps18
    go_wp2_with fail
    refine HN.out.mono ?_
    rintro e w1 ⟨rfl, hb⟩
    have hcs := HC.out.below hb
    obtain ⟨_, _, _, c3, _⟩ := hcs.cells
    obtain ⟨g, hp, hlt2, hcl⟩ := hcs.way (a := 2) (by omega) hi
    have ht := HT.out.below hb
    have HL := Lib.hid (rowList_any (k.rb 2 i) (k.rg 2 i) n (V 2 i) w1 (hcs.row 2 (by omega) i hi) ht.1 ht.2)
    have HB := Lib.hid hb
    rw [hp] at c3
    clear hcs hb HN hp ht
    go_wp2_with fail
    refine HL.out.mono ?_
    rintro e w2 ⟨⟨v, rfl, ho⟩, hb2⟩
    have HR : Hid (NumW w (rowInts n (V 2 i)) (.returned v) w2) := Lib.hid ⟨v, rfl, .of_own ho, HB.out.trans (hb2.mono HB.out.size)⟩
    clear HL c3 hcl hlt2 ho hb2
    go_wp2
    go_ret
    exact HR.out
  · have e : isN n u = false := decide_eq_false hu
    rw [if_neg (by rw [e]; decide)]
    rw [decide_eq_false hu] at HN
    clear h e hu hT
    go_enter Tryd.func18, Tryd.ntmps18
    go_wp2_with fail
    refine HN.out.mono ?_
    rintro e w1 ⟨rfl, hb⟩
    have HB := Lib.hid hb
    clear hb HN
    go_wp2
    go_ret
    exact ⟨_, rfl, .inl ⟨⟨_, _, rfl⟩, rfl⟩, HB.out⟩
def laL (n : Nat) (la : La) : List Int := match la with | none => [] | some x => rowInts n x.2.2
set_option maxRecDepth 100000 in
theorem last_any (h : CS B k n w f V la m) (hT : TabW w) : Calls Tryd.prog 17 #[.pointer (some ⟨k.b, 0, none⟩)] w (NumW w (laL n la)) := by
  have HH := Lib.hid (held_any h.head)
  have hf := fldC4 (some k.mb) (k.vp 0) (k.vp 1) (k.vp 2) (laP la) n (k.vc 0) n (k.vc 1) n (k.vc 2)
  have HC := Lib.hid h
  have HT := Lib.hid hT
  have hn4 : n ≤ 4096 := h.hn
  have HL : Hid (∀ w1, Below w.heap.size w w1 → Calls Tryd.prog 33 #[.pointer (laP la)] w1 (NumW w1 (laL n la))) := Lib.hid fun w1 hb => by
    cases la with
    | none =>
      refine (list_nil w1).mono ?_
      rintro e w2 ⟨rfl, hb2⟩
      exact ⟨_, rfl, .inl ⟨⟨_, _, rfl⟩, rfl⟩, hb2⟩
    | some x =>
      obtain ⟨l1, _, _⟩ := (HC.out.below hb).lst x rfl
      have ht := HT.out.below hb
      refine (rowList_any x.1 x.2.1 n x.2.2 w1 l1 ht.1 ht.2).mono ?_
      rintro e w2 ⟨⟨v, he, ho⟩, hb2⟩
      exact ⟨v, he, .of_own ho, hb2⟩
  generalize laP la = q at HH hf HL
  clear h hT hn4 HC HT
  go_enter Tryd.func17, Tryd.ntmps17
  go_wp2_with fail
  refine HH.out.mono ?_
  rintro e w1 ⟨rfl, hb⟩
  have HB := Lib.hid hb
  clear hb HH
  go_wp2_with fail
  refine (HL.out w1 HB.out).mono ?_
  rintro e w2 ⟨v, rfl, hi, hb2⟩
  have HR : Hid (NumW w (laL n la) (.returned v) w2) := Lib.hid ⟨v, rfl, hi, HB.out.trans (hb2.mono HB.out.size)⟩
  clear hi hb2 HL HB
  go_wp2
  go_ret
  exact HR.out
set_option maxRecDepth 100000 in
theorem arcs_any (h : CS B k n w f V la m) (hf : ∀ x, 0 ≤ f x ∧ f x ≤ 2147483647) (u v : Int) : Calls Tryd.prog 14 #[.pointer (some ⟨k.b, 0, none⟩), .int .i64 u, .int .i64 v] w (HeldP (.int .i64 (if isN n u && isN n v then f (u, v) else 0)) w) := by
  have HN := Lib.hid (isNode_any h.v u)
  have HC := Lib.hid h
  have hn4 : n ≤ 4096 := h.hn
  have HF := Lib.hid hf
  by_cases hu : 0 ≤ u ∧ u < (n : Int)
  · rw [decide_eq_true hu] at HN
    by_cases hv : 0 ≤ v ∧ v < (n : Int)
    · rw [if_pos (by unfold isN; rw [decide_eq_true hu, decide_eq_true hv]; rfl)]
      clear h hf
      go_enter Tryd.func14, Tryd.ntmps14
      go_wp2_with fail
      refine HN.out.mono ?_
      rintro e w1 ⟨rfl, hb⟩
      have HB := Lib.hid hb
      have HN2 := Lib.hid (isNode_any (HC.out.below hb).v v)
      rw [decide_eq_true hv] at HN2
      clear hb HN
      go_wp2_with fail
      refine HN2.out.mono ?_
      rintro e w2 ⟨rfl, hb⟩
      have HB2 := Lib.hid (HB.out.trans (hb.mono HB.out.size))
      obtain ⟨c0, _⟩ := (HC.out.below HB2.out).cells
      have HOF := Lib.hid (of_any (HC.out.below HB2.out).map u v (by omega) (by omega) (HF.out (u, v)))
      clear hb HN2 HB
      go_wp2_with fail
      refine HOF.out.mono ?_
      rintro e w3 ⟨rfl, rfl⟩
      clear HOF c0
      go_wp2
      go_ret
      exact ⟨rfl, HB2.out⟩
    · rw [if_neg (by unfold isN; rw [decide_eq_false hv, Bool.and_false]; decide)]
      clear h hf
      go_enter Tryd.func14, Tryd.ntmps14
      go_wp2_with fail
      refine HN.out.mono ?_
      rintro e w1 ⟨rfl, hb⟩
      have HB := Lib.hid hb
      have HN2 := Lib.hid (isNode_any (HC.out.below hb).v v)
      rw [decide_eq_false hv] at HN2
      clear hb HN
      go_wp2_with fail
      refine HN2.out.mono ?_
      rintro e w2 ⟨rfl, hb⟩
      have HB2 := Lib.hid (HB.out.trans (hb.mono HB.out.size))
      clear hb HN2 HB
      go_wp2
      go_ret
      exact ⟨rfl, HB2.out⟩
  · rw [decide_eq_false hu] at HN
    rw [if_neg (by unfold isN; rw [decide_eq_false hu, Bool.false_and]; decide)]
    clear h hf
    go_enter Tryd.func14, Tryd.ntmps14
    go_wp2_with fail
    refine HN.out.mono ?_
    rintro e w1 ⟨rfl, hb⟩
    have HB := Lib.hid hb
    clear hb HN
    go_wp2
    go_ret
    exact ⟨rfl, HB.out⟩
end Go.Proofs.YtakgepdlninnhaaDoor.Cs
namespace Go.Proofs.YtakgepdlninnhaaDoor.Cs
open Go.ChangeShapes Go.WideShapes Go.ChangeAt Go.RowKit Base F Bits Df
def natI (l : List Nat) : List Int := l.map fun (x : Nat) => (x : Int)
theorem natI_len (l : List Nat) : (natI l).length = l.length := by simp [natI]
theorem natI_app (l m : List Nat) : natI (l ++ m) = natI l ++ natI m := by simp [natI]
def fnV (F : Nat) (lb : Array Value) : Value := .func (.func F) #[] lb
/-- How a search goes on, whatever is left. -/
structure NxF (W0 : World) (n gl : Nat) (F : Nat) (lb : Array Value) (nb ng nV : Nat → Nat) : Prop where
  run : ∀ args w, (callFunc F args).run Tryd.prog w = .ok (.enter F args) w
  call : ∀ W (v : Nat), v < n → Fr (fun g => g = gl) W0 W → Calls Tryd.prog F (#[.int .i64 (v : Int)] ++ lb) W (HeldP (.pointer (some ⟨nb v, 0, none⟩)) W)
  row : ∀ v, v < n → RowAt W0 (nb v) (ng v) n (nV v) ∧ ng v ≠ gl
  left : ∃ cur, W0.heap[gl]? = some (.cells cur 86)
  tab : ∀ W, Fr (fun g => g = gl) W0 W → TabW W
  hn : n ≤ 4096
section
variable {W0 W W' : World} {n gl bl F : Nat} {lb : Array Value} {nb ng nV : Nat → Nat}
theorem NxF.rowAt (h : NxF W0 n gl F lb nb ng nV) {v : Nat} (hv : v < n) (hf : Fr (fun g => g = gl) W0 W) : RowAt W (nb v) (ng v) n (nV v) := by
  obtain ⟨h1, h2⟩ := h.row v hv
  obtain ⟨cur, hc⟩ := h.left
  refine h1.keep (hf.block (heap_lt h1.1) (fun e => ?_)) (hf.block (heap_lt h1.2.1) h2)
  have := h1.1
  rw [e, hc] at this
  simp only [Option.some.injEq, Obj.cells.injEq] at this
  exact absurd this.2.1 (by decide)
def nxl (n : Nat) (nV : Nat → Nat) (v : Nat) : List Nat := preB (fun x => (nV v).testBit x) n
/-- What from leaves. -/
def FromP (W0 : World) (n bl gl : Nat) (nV : Nat → Nat) (lv : Value) (zs : List Int) (L v : Nat) (W : World) (e : Ending) (W' : World) : Prop :=
  ∃ v' X o, e = .returned v' ∧ Lst.OwnI W0.heap.size W' v' (zs ++ natI o) ∧ RowAt W' bl gl n X ∧ Dfs (nxl n nV) [v] (fun x => L.testBit x) (fun x => X.testBit x) o ∧ Fr (fun g => g = gl ∨ lv.ownBlock = some g) W W' ∧ ∀ g, g < W.heap.size → v'.ownBlock = some g → lv.ownBlock = some g
theorem nextBoth_any {b g V bo go no O : Nat} (i : Nat) (z : Int) (hz : max z 0 = (i : Int)) (w : World) (h : RowAt w b g n V) (ho : RowAt w bo go no O) (hT : TabW w) :
    Calls Tryd.prog 59 #[.pointer (some ⟨b, 0, none⟩), .pointer (some ⟨bo, 0, none⟩), .int .i64 z] w fun e w' => (∃ r, e = .returned (.int .i64 r) ∧ NextP n (V &&& O) i r) ∧ ∃ q, w' = w.drewN q := by
  by_cases hi : i < n
  · exact both_in b g n V bo go no O i z hz hi w h ho hT.1
  · refine (both_out b g n V i (.pointer (some ⟨bo, 0, none⟩)) z hz (by omega) w h).mono ?_
    rintro e w' ⟨he, rfl⟩
    exact ⟨⟨-1, he, .inl ⟨rfl, fun j h1 h2 => by omega⟩⟩, 0, rfl⟩
def mN (n : Nat) (z : Int) : Nat := if z < 0 then 0 else n - z.toNat
theorem own_row {B : Nat} {v : Value} {zs : List Int} (h : Lst.OwnI B W v zs) (hs : ∀ g, v.ownBlock = some g → W'.heap[g]? = W.heap[g]?) : Lst.OwnI B W' v zs := by
  refine ⟨h.1, ?_⟩
  rcases h.2 with hn | ⟨g, cap, cur, h1, h2, h3, h4⟩
  · exact .inl hn
  · exact .inr ⟨g, cap, cur, h1, h2, (hs g (by rw [h1]; rfl)).trans h3, h4⟩
/-- Where its loop is. -/
def FI (W0 W : World) (n bl gl gs : Nat) (nV : Nat → Nat) (bx : Obj) (lv : Value) (zs : List Int) (L1 v i : Nat) (r : Int) (s2 : Value) (wr : World) : Prop :=
  ∃ X o, NextP n (nV v &&& X) i r ∧ Dfs (nxl n nV) (preB (fun x => (nV v).testBit x) i) (fun x => L1.testBit x) (fun x => X.testBit x) o ∧ Lst.OwnI W0.heap.size wr s2 (zs ++ natI o) ∧ RowAt wr bl gl n X ∧ wr.heap[gs]? = some bx ∧ Fr (fun g => g = gl ∨ lv.ownBlock = some g) W wr ∧ ∀ g, g < W.heap.size → s2.ownBlock = some g → lv.ownBlock = some g
theorem FI.frame {gs v i L1 : Nat} {r : Int} {s2 lv : Value} {bx : Obj} {zs : List Int} {wr : World} (h : FI W0 W n bl gl gs nV bx lv zs L1 v i r s2 wr) (hf : Fr (fun g => g = gl) W0 W) (ho : Lst.OwnI W0.heap.size W lv zs) : Fr (fun g => g = gl) W0 wr := by
  obtain ⟨X, o, _, _, _, _, _, h6, _⟩ := h
  refine hf.trans h6 (fun g hg hF => hF.elim id fun e => ?_)
  have := (World.ownsRow.lt ho g e).1
  omega
set_option maxRecDepth 100000 in
set_option maxHeartbeats 8000000 in
theorem from_no (hN : NxF W0 n gl F lb nb ng nV) {L v : Nat} {lv : Value} {zs : List Int} (hf : Fr (fun g => g = gl) W0 W) (hr : RowAt W bl gl n L) (ho : Lst.OwnI W0.heap.size W lv zs) (hv : v < n) (hbit : L.testBit v = false) :
    Calls Tryd.prog 43 #[.agg #[fnV F lb, .pointer (some ⟨bl, 0, none⟩)], .int .i64 (v : Int), lv] W (FromP W0 n bl gl nV lv zs L v W) := by
  have hrun := hN.run
  have hn4 : (n : Int) ≤ 4096 := by have := hN.hn; omega
  have hvi : (v : Int) < (n : Int) := by omega
  obtain ⟨gs, hgs⟩ : ∃ g, g = W.heap.size := ⟨_, rfl⟩
  obtain ⟨w1, hw1⟩ : ∃ X, X = W.alloc (.cells #[fnV F lb, .pointer (some ⟨bl, 0, none⟩)] 79) := ⟨_, rfl⟩
  have hb1 : Below W.heap.size W w1 := by rw [hw1]; exact (Below.refl _ _).alloc (Nat.le_refl _) _
  have hx1 : w1.heap[gs]? = some (.cells #[fnV F lb, .pointer (some ⟨bl, 0, none⟩)] 79) := by rw [hw1, hgs]; exact heap_alloc_at _ _ _ rfl
  have hr1 := hr.below hb1
  have ho1 := ho.below hb1
  have HS := Lib.hid (Bits.set_any bl gl n L (v : Int) false w1 hr1)
  have hval : decide (0 ≤ (v : Int) ∧ (v : Int) < (n : Int) ∧ L.testBit (v : Int).toNat ≠ false) = L.testBit v := by
    rw [Int.toNat_natCast]
    cases e : L.testBit v <;> simp [hvi]
  unfold SetPost at HS
  rw [hval] at HS
  have nsl : gs ≠ gl := fun e => by
    have h1 := hr1.2.1
    rw [← e, hx1] at h1
    simp only [Option.some.injEq, Obj.cells.injEq] at h1
    exact absurd h1.2.1 (by decide)
  have HE : Hid (Fr (fun g => g = gl) W0 W ∧ Lst.OwnI W0.heap.size W lv zs ∧ Below W.heap.size W w1 ∧ gs = W.heap.size ∧ RowAt w1 bl gl n L) := Lib.hid ⟨hf, ho, hb1, hgs, hr1⟩
  have HX1 := Lib.hid hx1
  have HN := Lib.hid nsl
  have hc0 : w1.cell? ⟨gs, 0, none⟩ = some (fnV F lb) := by simp [World.cell?, hx1]
  have hc1 : w1.cell? ⟨gs, 1, none⟩ = some (.pointer (some ⟨bl, 0, none⟩)) := by simp [World.cell?, hx1]
  unfold fnV at hc0
  clear hN hf hr ho hb1 hr1 ho1 hval nsl hx1
  unfold fnV at hw1
  unfold fnV
  go_enter Tryd.func43, Tryd.ntmps43
  go_upto_region 1 with fail
  rw [← hw1, ← hgs]
  clear hw1 hgs
  rw [hbit] at HS
  go_wp2_with fail
  refine HS.out.mono ?_
  rintro e w2 ⟨rfl, hr2, hg2⟩
  have HR : Hid (FromP W0 n bl gl nV lv zs L v W (.returned lv) w2) := Lib.hid (by
    obtain ⟨hf, ho, hb1, _, hr1⟩ := HE.out
    have e1 : setV n L (v : Int) false = L := by
      apply Nat.eq_of_testBit_eq
      intro x
      rw [setV_bit hv]
      split
      · rename_i e; rw [e, hbit]
      · rfl
    rw [e1] at hr2
    have hne : ∀ g, lv.ownBlock = some g → g ≠ gl := fun g hg e => by
      have := own_ne (ho.below hb1) hr1.2.1 (by decide)
      rw [hg, e] at this
      exact this rfl
    refine ⟨lv, L, [], rfl, ?_, hr2, .skip hbit .nil, ?_, fun g _ h => h⟩
    · have : zs ++ natI [] = zs := by simp [natI]
      rw [this]
      exact own_row (ho.below hb1) (fun g hg => hg2.block g (World.ownsRow.lt (ho.below hb1) g hg).2 (fun e => hne g hg (Option.some.inj e)))
    · exact (Fr.of_below hb1).trans (F' := fun g => g = gl) (Fr.of_grown hg2 (fun k hk => by injection hk with hk; exact hk.symm)) (fun g _ e => .inl e))
  clear hr2 hg2 HS
  go_wp2
  go_ret
  exact HR.out
set_option maxRecDepth 100000 in
set_option maxHeartbeats 8000000 in
theorem from_any (hN : NxF W0 n gl F lb nb ng nV) : ∀ (m : Nat) (W : World) (L v : Nat) (lv : Value) (zs : List Int), Fr (fun g => g = gl) W0 W → RowAt W bl gl n L → Lst.OwnI W0.heap.size W lv zs → v < n → cntB (fun x => L.testBit x) n ≤ m → zs.length + cntB (fun x => L.testBit x) n ≤ 100000 →
    Calls Tryd.prog 43 #[.agg #[fnV F lb, .pointer (some ⟨bl, 0, none⟩)], .int .i64 (v : Int), lv] W (FromP W0 n bl gl nV lv zs L v W) := by
  intro m
  induction m with
  | zero =>
    intro W L v lv zs hf hr ho hv hc hz
    refine from_no hN hf hr ho hv ?_
    cases e : L.testBit v with
    | false => rfl
    | true =>
      have := cntB_wo (L := fun x => L.testBit x) e n hv
      omega
  | succ m ih =>
    intro W L v lv zs hf hr ho hv hc hz
    cases hbit : L.testBit v with
    | false => exact from_no hN hf hr ho hv hbit
    | true =>
    have IH := Lib.hid ih
    have HNX := Lib.hid hN
    have hrun := hN.run
    have hn4 : (n : Int) ≤ 4096 := by have := hN.hn; omega
    have hvi : (v : Int) < (n : Int) := by omega
    obtain ⟨gs, hgs⟩ : ∃ g, g = W.heap.size := ⟨_, rfl⟩
    obtain ⟨w1, hw1⟩ : ∃ X, X = W.alloc (.cells #[fnV F lb, .pointer (some ⟨bl, 0, none⟩)] 79) := ⟨_, rfl⟩
    have hb1 : Below W.heap.size W w1 := by rw [hw1]; exact (Below.refl _ _).alloc (Nat.le_refl _) _
    have hx1 : w1.heap[gs]? = some (.cells #[fnV F lb, .pointer (some ⟨bl, 0, none⟩)] 79) := by rw [hw1, hgs]; exact heap_alloc_at _ _ _ rfl
    have hr1 := hr.below hb1
    have ho1 := ho.below hb1
    have HS := Lib.hid (Bits.set_any bl gl n L (v : Int) false w1 hr1)
    have hval : decide (0 ≤ (v : Int) ∧ (v : Int) < (n : Int) ∧ L.testBit (v : Int).toNat ≠ false) = L.testBit v := by
      rw [Int.toNat_natCast]
      cases e : L.testBit v <;> simp [hvi]
    unfold SetPost at HS
    rw [hval] at HS
    have nsl : gs ≠ gl := fun e => by
      have h1 := hr1.2.1
      rw [← e, hx1] at h1
      simp only [Option.some.injEq, Obj.cells.injEq] at h1
      exact absurd h1.2.1 (by decide)
    have HE : Hid (Fr (fun g => g = gl) W0 W ∧ Lst.OwnI W0.heap.size W lv zs ∧ cntB (fun x => L.testBit x) n ≤ m + 1 ∧ zs.length + cntB (fun x => L.testBit x) n ≤ 100000 ∧ Below W.heap.size W w1 ∧ gs = W.heap.size ∧ RowAt w1 bl gl n L) := Lib.hid ⟨hf, ho, hc, hz, hb1, hgs, hr1⟩
    have HX1 := Lib.hid hx1
    have HN := Lib.hid nsl
    have hc0 : w1.cell? ⟨gs, 0, none⟩ = some (fnV F lb) := by simp [World.cell?, hx1]
    have hc1 : w1.cell? ⟨gs, 1, none⟩ = some (.pointer (some ⟨bl, 0, none⟩)) := by simp [World.cell?, hx1]
    unfold fnV at hc0
    clear ih hN hf hr ho hc hz hb1 hr1 ho1 hval nsl hx1
    unfold fnV at hw1
    unfold fnV
    go_enter Tryd.func43, Tryd.ntmps43
    go_upto_region 1 with fail
    rw [← hw1, ← hgs]
    clear hw1 hgs
    rw [hbit] at HS
    go_wp2_with fail
    refine HS.out.mono ?_
    rintro e w2 ⟨rfl, hr2, hg2⟩
    obtain ⟨L1, hL1⟩ : ∃ L1, L1 = setV n L (v : Int) false := ⟨_, rfl⟩
    rw [← hL1] at hr2
    have HWO : Hid ((fun x => L1.testBit x) = Wo (fun x => L.testBit x) v) := Lib.hid (by
      funext x
      show L1.testBit x = _
      rw [hL1, setV_bit hv]
      unfold Wo
      by_cases e : x = v
      · rw [if_pos e, e]; simp
      · rw [if_neg e]; simp [e])
    obtain ⟨bx, hbx⟩ : ∃ bx, bx = Obj.cells #[fnV F lb, .pointer (some ⟨bl, 0, none⟩)] 79 := ⟨_, rfl⟩
    rw [← hbx] at HX1
    have hlt1 : ∀ g, g < w1.heap.size → g ≠ gl → w2.heap[g]? = w1.heap[g]? := fun g h1 h2 => hg2.block g h1 (fun e => h2 (Option.some.inj e))
    have hx2 : w2.heap[gs]? = some bx := (hlt1 _ (heap_lt HX1.out) HN.out).trans HX1.out
    have hfr12 : Fr (fun g => g = gl) w1 w2 := Fr.of_grown hg2 (fun k hk => by injection hk with hk; exact hk.symm)
    have hfW : Fr (fun g => g = gl ∨ lv.ownBlock = some g) W w2 := (Fr.of_below HE.out.2.2.2.2.1).trans hfr12 (fun g _ e => .inl e)
    have hown1 := HE.out.2.1.below HE.out.2.2.2.2.1
    have hne1 : ∀ g, lv.ownBlock = some g → g ≠ gl := fun g hg e => by
      have := own_ne hown1 HE.out.2.2.2.2.2.2.2.1 (by decide)
      rw [hg, e] at this
      exact this rfl
    have hown2 : Lst.OwnI W0.heap.size w2 lv zs := own_row hown1 (fun g hg => hlt1 g (World.ownsRow.lt hown1 g hg).2 (hne1 g hg))
    have hf2 : Fr (fun g => g = gl) W0 w2 := (HE.out.1.trans (F' := fun g => g = gl) (Fr.of_below HE.out.2.2.2.2.1) (fun g _ e => e)).trans hfr12 (fun g _ e => e)
    have HCALL := Lib.hid (HNX.out.call w2 v hv hf2)
    have H2 : Hid (w2.heap[gs]? = some bx ∧ Fr (fun g => g = gl ∨ lv.ownBlock = some g) W w2 ∧ Lst.OwnI W0.heap.size w2 lv zs ∧ Fr (fun g => g = gl) W0 w2 ∧ RowAt w2 bl gl n L1) := Lib.hid ⟨hx2, hfW, hown2, hf2, hr2⟩
    have HBX : Hid (∀ X : World, X.heap[gs]? = some bx → X.cell? ⟨gs, 0, none⟩ = some (.func (.func F) #[] lb) ∧ X.cell? ⟨gs, 1, none⟩ = some (.pointer (some ⟨bl, 0, none⟩))) := Lib.hid fun X hX => by rw [hbx] at hX; unfold fnV at hX; simp [World.cell?, hX]
    have HBT : Hid (∀ (X : World) (cur : Array Value), X.heap[gs]? = some bx → X.heap[gs]? ≠ some (.cells cur 3 (0, 0))) := Lib.hid fun X cur h1 h2 => by
      rw [h1, hbx] at h2
      simp only [Option.some.injEq, Obj.cells.injEq] at h2
      exact absurd h2.2.1 (by decide)
    obtain ⟨d0, d1⟩ := HBX.out w2 hx2
    have HL1 := Lib.hid hL1
    have HV := Lib.hid hv
    have HBIT := Lib.hid hbit
    clear hlt1 hx2 hfr12 hfW hown1 hne1 hown2 hf2 hr2 hg2 hc0 hc1 HS HX1 hbx hL1 hv hbit
    go_wp2_with fail
    refine HCALL.out.mono ?_
    rintro e w3 ⟨rfl, hb3⟩
    obtain ⟨h1, h2, h3, h4, h5⟩ := H2.out
    have hx3 : w3.heap[gs]? = some bx := (hb3.block _ (heap_lt h1)).trans h1
    have hf3 : Fr (fun g => g = gl) W0 w3 := h4.trans (F' := fun g => g = gl) (Fr.of_below hb3) (fun g _ e => e)
    have H3 : Hid (w3.heap[gs]? = some bx ∧ Fr (fun g => g = gl ∨ lv.ownBlock = some g) W w3 ∧ Lst.OwnI W0.heap.size w3 lv zs ∧ Fr (fun g => g = gl) W0 w3 ∧ RowAt w3 bl gl n L1) := Lib.hid ⟨hx3, h2.trans (F' := fun g => g = gl) (Fr.of_below hb3) (fun g _ e => .inl e), h3.below hb3, hf3, h5.below hb3⟩
    have HNB := Lib.hid (nextBoth_any (b := nb v) (g := ng v) (V := nV v) 0 0 (by decide) w3 (HNX.out.rowAt HV.out hf3) (h5.below hb3) (HNX.out.tab w3 hf3))
    obtain ⟨d0', d1'⟩ := HBX.out w3 hx3
    clear h1 h2 h3 h4 h5 hx3 hf3 hb3 HCALL H2 d0 d1
    go_wp2_with fail
    refine HNB.out.mono ?_
    rintro e w4 ⟨⟨r, rfl, hnp⟩, q, rfl⟩
    obtain ⟨w4, hw4⟩ : ∃ X, X = w3.drewN q := ⟨_, rfl⟩
    rw [← hw4]
    have hrb : -1 ≤ r ∧ r < (n : Int) := by rcases hnp with ⟨h, _⟩ | ⟨j, h, _, hj, _⟩ <;> omega
    have HI : Hid (FI W0 W n bl gl gs nV bx lv zs L1 v 0 r lv w4) := Lib.hid (by
      obtain ⟨h1, h2, h3, h4, h5⟩ := H3.out
      have hb : Below w3.heap.size w3 w4 := by rw [hw4]; exact below_drewN (Below.refl _ _) q
      refine ⟨L1, [], hnp, .nil, ?_, h5.below hb, (hb.block _ (heap_lt h1)).trans h1, h2.trans (F' := fun g => g = gl) (Fr.of_below hb) (fun g _ e => .inl e), fun g _ h => h⟩
      have : zs ++ natI [] = zs := by simp [natI]
      rw [this]
      exact h3.below hb)
    clear hw4 hnp H3 HNB d0' d1'
    go_wp2_with fail
    go_loopw [2, 8] (fun s2 s8 wr => ∃ (i : Nat) (r : Int), s8 = .int .i64 r ∧ ((-1 ≤ r ∧ r < (n : Int)) ∧ i ≤ n) ∧ Hid (FI W0 W n bl gl gs nV bx lv zs L1 v i r s2 wr)) (fun _ s8 _ => mN n (intOf s8))
    case atStart => exact ⟨0, r, rfl, ⟨hrb, Nat.zero_le _⟩, HI⟩
    case round =>
      clear HI hrb
      obtain ⟨i, r, rfl, ⟨hrb, hin⟩, HI⟩ := hrel
      by_cases hr0 : 0 ≤ r
      · obtain ⟨X, o, hnp, hdf, hown, hrow, hbx, hfr, htr⟩ := HI.out
        have hf := HI.out.frame HE.out.1 HE.out.2.1
        obtain ⟨j, rfl, hij, hjn, hjb, hno⟩ : ∃ j : Nat, r = (j : Int) ∧ i ≤ j ∧ j < n ∧ (nV v &&& X).testBit j = true ∧ ∀ x, i ≤ x → x < j → (nV v &&& X).testBit x = false := by
          rcases hnp with ⟨h, _⟩ | ⟨j, h1, h2, h3, h4, h5⟩
          · omega
          · exact ⟨j, h1, h2, h3, h4, h5⟩
        rw [Nat.testBit_and, Bool.and_eq_true] at hjb
        have hno' : ∀ x, i ≤ x → x < j → ¬ ((nV v).testBit x = true ∧ X.testBit x = true) := fun x h1 h2 h3 => by
          have := hno x h1 h2
          rw [Nat.testBit_and, h3.1, h3.2] at this
          cases this
        have hsub := cntB_le (fun x hx => hdf.sub x hx) n
        have hcw : cntB (fun x => L1.testBit x) n + 1 = cntB (fun x => L.testBit x) n := by rw [HWO.out]; exact cntB_wo (L := fun x => L.testBit x) HBIT.out n HV.out
        have hL1 : ∀ x, L1.testBit x = true → x < n := fun x hx => by
          have h1 : Wo (fun x => L.testBit x) v x = true := by rw [← HWO.out]; exact hx
          exact bit_lt HE.out.2.2.2.2.2.2.2.2.2 (wo_iff.1 h1).1
        have hlen := dfs_len hdf (n := n) hL1
        have HREC := Lib.hid (IH.out wr X j u2 (zs ++ natI o) hf hrow hown hjn (by have := HE.out.2.2.1; omega) (by rw [List.length_append, natI_len]; have := HE.out.2.2.2.1; omega))
        have H5 : Hid (Dfs (nxl n nV) (preB (fun x => (nV v).testBit x) i) (fun x => L1.testBit x) (fun x => X.testBit x) o ∧ RowAt wr bl gl n X ∧ Lst.OwnI W0.heap.size wr u2 (zs ++ natI o) ∧ wr.heap[gs]? = some bx ∧ Fr (fun g => g = gl ∨ lv.ownBlock = some g) W wr ∧ (∀ g, g < W.heap.size → u2.ownBlock = some g → lv.ownBlock = some g) ∧ Fr (fun g => g = gl) W0 wr) := Lib.hid ⟨hdf, hrow, hown, hbx, hfr, htr, hf⟩
        have HJ : Hid (i ≤ j ∧ (∀ x, i ≤ x → x < j → ¬ ((nV v).testBit x = true ∧ X.testBit x = true)) ∧ (nV v).testBit j = true) := Lib.hid ⟨hij, hno', hjb.1⟩
        obtain ⟨d0, d1⟩ := HBX.out wr hbx
        have hjni : (j : Int) < (n : Int) := by omega
        clear hnp hdf hown hrow hbx hfr htr hf hno hno' hsub hcw hL1 hlen hij hjb HI
        unfold fnV at HREC
        go_wp2_with fail
        refine HREC.out.mono ?_
        rintro e w5 ⟨v5, X5, o5, rfl, ho5, hr5, hd5, hf5, ht5⟩
        have H6 : Hid (w5.heap[gs]? = some bx ∧ Fr (fun g => g = gl ∨ lv.ownBlock = some g) W w5 ∧ Lst.OwnI W0.heap.size w5 v5 (zs ++ natI (o ++ o5)) ∧ Fr (fun g => g = gl) W0 w5 ∧ RowAt w5 bl gl n X5 ∧ Dfs (nxl n nV) (preB (fun x => (nV v).testBit x) (j + 1)) (fun x => L1.testBit x) (fun x => X5.testBit x) (o ++ o5) ∧ ∀ g, g < W.heap.size → v5.ownBlock = some g → lv.ownBlock = some g) := Lib.hid (by
          obtain ⟨hdf, hrow, hown, hbx, hfr, htr, hf⟩ := H5.out
          have hgs : ¬ (gs = gl ∨ u2.ownBlock = some gs) := fun e => by
            rcases e with e | e
            · exact HN.out e
            · have h1 := hown
              rcases h1.2 with ⟨hv, _⟩ | ⟨g, cap, cur, hv, _, hg, _⟩
              · rw [hv] at e; cases e
              · rw [hv] at e
                have e2 : g = gs := Option.some.inj e
                rw [e2] at hg
                exact HBT.out wr _ hbx hg
          have hsz : W.heap.size ≤ wr.heap.size := hfr.size
          refine ⟨(hf5.block (heap_lt hbx) hgs).trans hbx, hfr.trans hf5 (fun g hg e => e.elim .inl (fun e => .inr (htr g hg e))), ?_, ?_, hr5, dfs_next_ hdf HJ.out.1 HJ.out.2.1 HJ.out.2.2 hd5, fun g hg e => htr g hg (ht5 g (Nat.lt_of_lt_of_le hg hsz) e)⟩
          · rw [natI_app, ← List.append_assoc]; exact ho5
          · refine hf.trans hf5 (fun g hg e => e.elim id fun e => ?_)
            have := (World.ownsRow.lt hown g e).1
            omega)
        have hnb := nextBoth_any (b := nb v) (g := ng v) (V := nV v) (j + 1) ((j : Int) + 1) (by omega) w5 (HNX.out.rowAt HV.out H6.out.2.2.2.1) H6.out.2.2.2.2.1 (HNX.out.tab w5 H6.out.2.2.2.1)
        have HNB := Lib.hid hnb
        obtain ⟨d0', d1'⟩ := HBX.out w5 H6.out.1
        clear ho5 hr5 hd5 hf5 ht5 hnb H5 HJ HREC d0 d1
        go_wp2_with fail
        refine HNB.out.mono ?_
        rintro e w6 ⟨⟨r6, rfl, hnp⟩, q, rfl⟩
        obtain ⟨w6, hw6⟩ : ∃ X, X = w5.drewN q := ⟨_, rfl⟩
        rw [← hw6]
        have hrb6 : -1 ≤ r6 ∧ r6 < (n : Int) := by rcases hnp with ⟨h, _⟩ | ⟨j, h, _, hj, _⟩ <;> omega
        have HME : Hid (mN n r6 < mN n (j : Int)) := Lib.hid (by
          unfold mN
          rcases hnp with ⟨h, _⟩ | ⟨j6, h, h2, hj, _⟩
          · rw [if_pos (by omega), if_neg (by omega)]; omega
          · rw [if_neg (by omega), if_neg (by omega)]; omega)
        have HI6 : Hid (FI W0 W n bl gl gs nV bx lv zs L1 v (j + 1) r6 v5 w6) := Lib.hid (by
          obtain ⟨h1, h2, h3, h4, h5, h6, h7⟩ := H6.out
          have hb : Below w5.heap.size w5 w6 := by rw [hw6]; exact below_drewN (Below.refl _ _) q
          exact ⟨X5, o ++ o5, hnp, h6, h3.below hb, h5.below hb, (hb.block _ (heap_lt h1)).trans h1, h2.trans (F' := fun g => g = gl) (Fr.of_below hb) (fun g _ e => .inl e), h7⟩)
        clear hw6 hnp H6 HNB d0' d1'
        go_wp2_with fail
        go_roundw
        case rel => exact ⟨j + 1, r6, rfl, ⟨hrb6, by omega⟩, HI6⟩
        case measure => exact HME.out
      · have hr1 : r = -1 := by omega
        subst hr1
        obtain ⟨X, o, hnp, hdf, hown, hrow, hbx, hfr, htr⟩ := HI.out
        have hend : ∀ x, i ≤ x → x < n → ¬ ((nV v).testBit x = true ∧ X.testBit x = true) := fun x h1 h2 h3 => by
          rcases hnp with ⟨_, h⟩ | ⟨j, h, _⟩
          · have := h x h1 h2
            rw [Nat.testBit_and, h3.1, h3.2] at this
            cases this
          · omega
        have hdn := dfs_skips hdf n hin hend
        have hgo : Dfs (nxl n nV) [v] (fun x => L.testBit x) (fun x => X.testBit x) (o ++ v :: []) := Dfs.go (ns := []) HBIT.out (by rw [← HWO.out]; exact hdn) .nil
        have hL1 : ∀ x, L1.testBit x = true → x < n := fun x hx => by
          have h1 : Wo (fun x => L.testBit x) v x = true := by rw [← HWO.out]; exact hx
          exact bit_lt HE.out.2.2.2.2.2.2.2.2.2 (wo_iff.1 h1).1
        have hlen := dfs_len hdf (n := n) hL1
        have hcw : cntB (fun x => L1.testBit x) n + 1 = cntB (fun x => L.testBit x) n := by rw [HWO.out]; exact cntB_wo (L := fun x => L.testBit x) HBIT.out n HV.out
        have HLEN : Hid ((zs ++ natI o).length + 1 ≤ 1000000) := Lib.hid (by rw [List.length_append, natI_len]; have := HE.out.2.2.2.1; omega)
        have H7 : Hid (Lst.OwnI W0.heap.size wr u2 (zs ++ natI o) ∧ RowAt wr bl gl n X ∧ Fr (fun g => g = gl ∨ lv.ownBlock = some g) W wr ∧ (∀ g, g < W.heap.size → u2.ownBlock = some g → lv.ownBlock = some g) ∧ Dfs (nxl n nV) [v] (fun x => L.testBit x) (fun x => X.testBit x) (o ++ v :: []) ∧ W0.heap.size ≤ wr.heap.size) := Lib.hid ⟨hown, hrow, hfr, htr, hgo, Nat.le_trans HE.out.1.size hfr.size⟩
        clear hnp hdf hown hrow hbx hfr htr hend hdn hgo hL1 hlen hcw HI
        go_wp2_with (refine Lst.append_ints rfl (.tmp 35) (.tmp 37) rfl (B := W0.heap.size) (zs := zs ++ natI o) (ys := [(v : Int)]) (Nat.le_trans H7.out.2.2.2.2.2 (by simp)) (H7.out.1.below ((Below.refl _ _).alloc (Nat.le_refl _) _)) rfl (Lst.lit_ints [(v : Int)] wr _ #[.int .i64 (v : Int)] rfl (by simp) 1 rfl) (by intro n c h; cases h) rfl HLEN.out ?_; intro v9 w9 ho9 hg9 hbk; have H9 := Lib.hid (And.intro ho9 (And.intro hg9 hbk)); clear ho9 hg9 hbk)
        go_ret
        obtain ⟨hown, hrow, hfr, htr, hgo, hsz⟩ := H7.out
        obtain ⟨ho9, hg9, hbk⟩ := H9.out
        have hba : Below wr.heap.size wr (wr.alloc (.cells #[.int .i64 (v : Int)] 3)) := (Below.refl _ _).alloc (Nat.le_refl _) _
        have hown2 := hown.below hba
        have hrow2 := hrow.below hba
        have n1 : u2.ownBlock ≠ some bl := own_ne hown2 hrow2.1 (by decide)
        have n2 : u2.ownBlock ≠ some gl := own_ne hown2 hrow2.2.1 (by decide)
        have hfr9 : Fr (fun g => g = gl ∨ lv.ownBlock = some g) W w9 := (hfr.trans (F' := fun g => g = gl) (Fr.of_below hba) (fun g _ e => .inl e)).trans (F' := fun g => u2.ownBlock = some g) (Fr.of_grown hg9 (fun k hk => hk)) (fun g hg e => .inr (htr g hg e))
        refine ⟨v9, X, o ++ v :: [], rfl, ?_, hrow2.keep (hg9.block _ (heap_lt hrow2.1) (fun e => n1 e.symm)) (hg9.block _ (heap_lt hrow2.2.1) (fun e => n2 e.symm)), hgo, hfr9, fun g hg e => ?_⟩
        · rw [natI_app, ← List.append_assoc]
          exact ho9
        · rcases hbk with h | h
          · rw [h] at e; exact htr g hg e
          · rw [h] at e
            injection e with e
            have := hfr.size
            have h2 : (wr.alloc (.cells #[.int .i64 (v : Int)] 3)).heap.size = wr.heap.size + 1 := by simp
            omega
end
end Go.Proofs.YtakgepdlninnhaaDoor.Cs
