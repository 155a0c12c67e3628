/-
  Contracts of small functions, several texts laid into one. Not a statement of the seat.
-/
import Derived.Test.YtpgfkggfgkafjaaHead13
import Derived.Test.YtpgfkggfgkafjaaLstSame
import Derived.Deep.RegionHeld3
import Derived.Carry
import Derived.Test.YtpgfkggfgkafjaaFDd22
namespace Go.Proofs.Ytpgfkggfgkafjaa.Gr
open Go.ChangeShapes Go.WideShapes Go.ChangeAt Go.RowKit Base Ro F Dl Ln Rf
/-- A digraph of the call's own, two boxes, and what was there in w0. -/
def LG (w0 : World) (b : Nat) (nbs : Bool → Nat) (ga gc : Nat) (a c : Arc) (q : List Arc) (Z : World) : Prop :=
  (GQ Z w0.heap.size b 2 q nbs ∧ (w0.heap.size ≤ b ∧ ∀ s, w0.heap.size ≤ nbs s) ∧ Below w0.heap.size w0 Z) ∧ Z.heap[ga]? = some (bxA a) ∧ Z.heap[gc]? = some (bxA c)
section
variable {w0 Z Z' : World} {b ga gc : Nat} {nbs : Bool → Nat} {a c : Arc} {q q' : List Arc} {e : Ending} {v : Value}
theorem LG.below (h : LG w0 b nbs ga gc a c q Z) (hb : Below Z.heap.size Z Z') : LG w0 b nbs ga gc a c q Z' :=
  ⟨⟨h.1.1.below hb, h.1.2.1, h.1.2.2.trans (hb.mono h.1.2.2.size)⟩, (hb.block _ (heap_lt h.2.1)).trans h.2.1, (hb.block _ (heap_lt h.2.2)).trans h.2.2⟩
theorem LG.chg (h : LG w0 b nbs ga gc a c q Z) (h1 : GQ Z' w0.heap.size b 2 q' nbs) (hf : Fr (AF Z w0.heap.size b nbs) Z Z') : LG w0 b nbs ga gc a c q' Z' :=
  ⟨⟨h1, h.1.2.1, h.1.2.2.trans (h.1.1.keep hf h.1.2.1.1 h.1.2.1.2)⟩, (h.1.1.other hf h.2.1 (by decide)).trans h.2.1, (h.1.1.other hf h.2.2 (by decide)).trans h.2.2⟩
/-- What the region's loads want. -/
def CA (ga : Nat) (a : Arc) (Z : World) : Prop := Z.cell? ⟨ga, 0, none⟩ = some (.int .i64 a.fr) ∧ Z.cell? ⟨ga, 1, none⟩ = some (.int .i64 a.to) ∧ Z.cell? ⟨ga, 2, none⟩ = some (.int .i64 a.kd) ∧ Z.cell? ⟨ga, 3, none⟩ = some (.int .i64 a.lb)
theorem LG.cells (h : LG w0 b nbs ga gc a c q Z) : CA ga a Z ∧ CA gc c Z := ⟨cellsA h.2.1, cellsA h.2.2⟩
theorem lg_add (h : LG w0 b nbs ga gc a c q Z) (x : Arc) (r : Int) (he : addE 2 q x = r) (hq : addL 2 q x = q') (hl : q.length < 499) : Calls Try.prog 11 #[.pointer (some ⟨b, 0, none⟩), vA x] Z fun e w' => e = .returned (.int .i64 r) ∧ Hid (LG w0 b nbs ga gc a c q' w') := by
  refine (add_q h.1.1 (by omega) hl x).mono ?_
  rintro e w' ⟨h1, h2, h3⟩
  rw [he] at h1
  rw [hq] at h2
  exact ⟨h1, Lib.hid (h.chg h2 h3)⟩
theorem lg_drop (h : LG w0 b nbs ga gc a c q Z) (x : Arc) (r : Int) (he : (if x ∈ q then (0 : Int) else 3) = r) (hq : dropA q x = q') : Calls Try.prog 13 #[.pointer (some ⟨b, 0, none⟩), vA x] Z fun e w' => e = .returned (.int .i64 r) ∧ Hid (LG w0 b nbs ga gc a c q' w') := by
  refine (drop_q h.1.1 (by omega) x).mono ?_
  rintro e w' ⟨h1, h2, h3⟩
  rw [he] at h1
  rw [hq] at h2
  exact ⟨h1, Lib.hid (h.chg h2 h3)⟩
theorem lg_held (h : LG w0 b nbs ga gc a c q Z) (hp : HeldP v Z e Z') : e = .returned v ∧ Hid (LG w0 b nbs ga gc a c q Z') := ⟨hp.1, Lib.hid (h.below hp.2)⟩
theorem lg_nums {zs : List Int} (h : LG w0 b nbs ga gc a c q Z) (hl : zs.length ≤ 1000) (hp : NumsP Z zs e Z') : ∃ v, e = .returned v ∧ Lst.Ints 0 Z' v zs ∧ (∃ p c, v = .slice p zs.length c) ∧ Hid (LG w0 b nbs ga gc a c q Z') ∧ Below Z.heap.size Z Z' := by
  obtain ⟨v, h1, h2, h3⟩ := hp
  refine ⟨v, h1, h2.ints (by omega), ?_, Lib.hid (h.below h3), h3⟩
  obtain ⟨p, c, e, _⟩ := (h2.ints (by omega)).open_
  exact ⟨p, c, e⟩
theorem lg_arcs {zs : List Arc} (h : LG w0 b nbs ga gc a c q Z) (hl : zs.length ≤ 1000) (hp : GatP Z zs e Z') : ∃ v, e = .returned v ∧ Arcs 0 Z' v zs ∧ (∃ p c, v = .slice p zs.length c) ∧ Hid (LG w0 b nbs ga gc a c q Z') ∧ Below Z.heap.size Z Z' := by
  obtain ⟨v, h1, h2, h3⟩ := hp
  have h4 := (OwnArc.list h2 (by omega)).mono (Nat.zero_le _)
  obtain ⟨p, c, e, _⟩ := h4.open_
  exact ⟨v, h1, h4, ⟨p, c, e⟩, Lib.hid (h.below h3), h3⟩
theorem lg_same {xs : List Int} {u : Value} (h : LG w0 b nbs ga gc a c q Z) (hx : Lst.Ints 0 Z v xs) (hy : Lst.Ints 0 Z u xs) : Calls Try.prog 22 #[v, u] Z fun e w' => e = .returned (.bool true) ∧ Hid (LG w0 b nbs ga gc a c q w') := by
  refine (Lst.sameInts_yes hx hy).mono ?_
  rintro e w' ⟨h1, k, rfl⟩
  exact ⟨h1, Lib.hid (h.below (below_drewN (Below.refl _ _) k))⟩
theorem lg_sameA {xs : List Arc} {u : Value} (h : LG w0 b nbs ga gc a c q Z) (hx : Arcs 0 Z v xs) (hy : Arcs 0 Z u xs) : Calls Try.prog 18 #[v, u] Z fun e w' => e = .returned (.bool true) ∧ Hid (LG w0 b nbs ga gc a c q w') := by
  refine (gsame_any Z hx hy).mono ?_
  rintro e w' ⟨h1, h2⟩
  rw [decide_eq_true rfl] at h1
  exact ⟨h1, Lib.hid (h.below h2)⟩
end
def TruP (w : World) (e : Ending) (w' : World) : Prop := e = .returned (.bool true) ∧ Below w.heap.size w w'
end Go.Proofs.Ytpgfkggfgkafjaa.Gr
namespace Go.Proofs.Ytpgfkggfgkafjaa.Gr
open Go.ChangeShapes Go.WideShapes Go.ChangeAt Go.RowKit Base Ro F Dl Ln Rf
open Go.Proofs.Ytpgfkggfgkafjaa.Tx (BoolNew Aft)
theorem room_any (n : Int) (w : World) : Calls Try.prog 7 #[.int .i64 n] w fun e w' => e = .returned (.int .i64 (roomL n : Nat)) ∧ w = w' := by
  have hc : (n < 0 ∧ roomL n = 0) ∨ (0 ≤ n ∧ n ≤ 4096 ∧ n = ((roomL n : Nat) : Int)) ∨ (4096 < n ∧ roomL n = 4096) := by unfold roomL; omega
  generalize roomL n = r at hc ⊢
  rcases hc with ⟨h1, rfl⟩ | ⟨h1, h2, rfl⟩ | ⟨h1, rfl⟩
  · go_enter Try.func7, Try.ntmps7
    go_wp2
    go_ret
    exact ⟨rfl, rfl⟩
  · go_enter Try.func7, Try.ntmps7
    go_wp2
    go_ret
    exact ⟨rfl, rfl⟩
  · have h2 : 0 ≤ n := by omega
    go_enter Try.func7, Try.ntmps7
    go_wp2
    go_ret
    exact ⟨rfl, rfl⟩
section
variable {w w1 Z Z' D : World} {b N B B' gd : Nat} {nbs : Bool → Nat} {a : Arc} {x : Dd22} {ql qg zs ps : List Arc} {e : Ending} {v u : Value}
theorem own_keep (h : OwnArc B Z v zs) (hk : ∀ (g : Nat) (cs : Array Value), Z.heap[g]? = some (Obj.cells cs 29) → Z'.heap[g]? = Z.heap[g]?) : OwnArc B Z' v zs := by
  obtain ⟨hl, h⟩ := h
  refine ⟨hl, ?_⟩
  rcases h with h | ⟨g, cap, cur, hv, hB, h2, h3⟩
  · exact .inl h
  · exact .inr ⟨g, cap, cur, hv, hB, (hk g cur h2).trans h2, h3⟩
theorem own_mono (h : OwnArc B Z v zs) (hb : B' ≤ B) : OwnArc B' Z v zs := by
  obtain ⟨hl, h⟩ := h
  refine ⟨hl, ?_⟩
  rcases h with h | ⟨g, cap, cur, hv, hB, h3⟩
  · exact .inl h
  · exact .inr ⟨g, cap, cur, hv, Nat.le_trans hb hB, h3⟩
/-- The box of a deed. -/
def bxD (x : Dd22) : Obj := .cells #[.int .i64 x.kind, .int .i64 x.fr, .int .i64 x.to, .int .i64 x.kd, .int .i64 x.lb] 31
def CD (gd : Nat) (x : Dd22) (Z : World) : Prop := Z.cell? ⟨gd, 0, none⟩ = some (.int .i64 x.kind) ∧ Z.cell? ⟨gd, 1, none⟩ = some (.int .i64 x.fr) ∧ Z.cell? ⟨gd, 2, none⟩ = some (.int .i64 x.to) ∧ Z.cell? ⟨gd, 3, none⟩ = some (.int .i64 x.kd) ∧ Z.cell? ⟨gd, 4, none⟩ = some (.int .i64 x.lb)
theorem cellsD (h : Z.heap[gd]? = some (bxD x)) : CD gd x Z := by
  unfold bxD at h
  simp [CD, World.cell?, h]
/-- A digraph of the call's own with the arcs qg, a list of its own with the arcs ql, and what was there in w. -/
def PG (w w1 Z : World) (b N : Nat) (nbs : Bool → Nat) (v : Value) (ql qg : List Arc) : Prop :=
  (GQ Z w1.heap.size b N qg nbs ∧ (w1.heap.size ≤ b ∧ ∀ s, w1.heap.size ≤ nbs s)) ∧ OwnArc w1.heap.size Z v ql ∧ (w.heap.size ≤ w1.heap.size ∧ w1.heap.size ≤ Z.heap.size) ∧ Below w.heap.size w Z
theorem PG.below (h : PG w w1 Z b N nbs v ql qg) (hb : Below Z.heap.size Z Z') : PG w w1 Z' b N nbs v ql qg :=
  ⟨⟨h.1.1.below hb, h.1.2⟩, h.2.1.below hb, ⟨h.2.2.1.1, Nat.le_trans h.2.2.1.2 hb.size⟩, h.2.2.2.trans (hb.mono h.2.2.2.size)⟩
def PD (w w1 Z : World) (b N : Nat) (nbs : Bool → Nat) (v : Value) (ql qg : List Arc) (gd : Nat) (x : Dd22) : Prop := PG w w1 Z b N nbs v ql qg ∧ Z.heap[gd]? = some (bxD x)
theorem PD.below (h : PD w w1 Z b N nbs v ql qg gd x) (hb : Below Z.heap.size Z Z') : PD w w1 Z' b N nbs v ql qg gd x :=
  ⟨h.1.below hb, (hb.block _ (heap_lt h.2)).trans h.2⟩
theorem PD.graph {qh : List Arc} (h : PD w w1 Z b N nbs v ql qg gd x) (h1 : GQ Z' w1.heap.size b N qh nbs) (hf : Fr (AF Z w1.heap.size b nbs) Z Z') : PD w w1 Z' b N nbs v ql qh gd x := by
  have hk := h.1.1.1.keep hf h.1.1.2.1 h.1.1.2.2
  exact ⟨⟨⟨h1, h.1.1.2⟩, own_keep h.1.2.1 (fun g cs hg => h.1.1.1.other hf hg (by decide)), ⟨h.1.2.2.1.1, Nat.le_trans h.1.2.2.1.2 hf.size⟩, h.1.2.2.2.trans (hk.mono h.1.2.2.1.1)⟩, (h.1.1.1.other hf h.2 (by decide)).trans h.2⟩
theorem pd_add (h : PD w w1 Z b N nbs v ql qg gd x) (hN : N ≤ 4096) (hl : qg.length < 499) (a : Arc) (r : Int) (he : addE N qg a = r) (hq : addL N qg a = ql) : Calls Try.prog 11 #[.pointer (some ⟨b, 0, none⟩), vA a] Z fun e w' => e = .returned (.int .i64 r) ∧ Hid (PD w w1 w' b N nbs v ql ql gd x) := by
  refine (add_q h.1.1.1 hN hl a).mono ?_
  rintro e w' ⟨h1, h2, h3⟩
  rw [he] at h1
  rw [hq] at h2
  exact ⟨h1, Lib.hid (h.graph h2 h3)⟩
theorem pd_drop (h : PD w w1 Z b N nbs v ql qg gd x) (hN : N ≤ 4096) (a : Arc) (r : Int) (he : (if a ∈ qg then (0 : Int) else 3) = r) (hq : dropA qg a = ql) : Calls Try.prog 13 #[.pointer (some ⟨b, 0, none⟩), vA a] Z fun e w' => e = .returned (.int .i64 r) ∧ Hid (PD w w1 w' b N nbs v ql ql gd x) := by
  refine (drop_q h.1.1.1 hN a).mono ?_
  rintro e w' ⟨h1, h2, h3⟩
  rw [he] at h1
  rw [hq] at h2
  exact ⟨h1, Lib.hid (h.graph h2 h3)⟩
theorem PD.list {w' : World} {u : Value} (h : PD w w1 Z b N nbs v ql qg gd x) (hr : RA Z w' u zs) : PD w w1 w' b N nbs u zs qg gd x := by
  have h' := h.below hr.1
  exact ⟨⟨h'.1.1, own_mono hr.2 h.1.2.2.1.2, h'.1.2.2⟩, h'.2⟩
theorem PD.arcs (h : PD w w1 Z b N nbs v ql qg gd x) (hl : ql.length ≤ 1000) : Arcs 0 Z v ql := (OwnArc.list h.1.2.1 (by omega)).mono (Nat.zero_le _)
theorem pd_put (h : PD w w1 Z b N nbs v ql qg gd x) (hl : ql.length ≤ 1000) (a : Arc) : Calls Try.prog 10 #[v, vA a] Z fun e w' => ∃ u, e = .returned u ∧ Hid (PD w w1 w' b N nbs u (goA a false ql) qg gd x) := by
  refine (gput_any a Z (h.arcs hl) (by omega)).mono ?_
  rintro e w' ⟨u, he, hr⟩
  exact ⟨u, he, Lib.hid (h.list hr)⟩
theorem pd_del (h : PD w w1 Z b N nbs v ql qg gd x) (hl : ql.length ≤ 1000) (a : Arc) : Calls Try.prog 12 #[v, vA a] Z fun e w' => ∃ u, e = .returned u ∧ Hid (PD w w1 w' b N nbs u (dropA ql a) qg gd x) := by
  refine (gdrop_any a Z (h.arcs hl) (by omega)).mono ?_
  rintro e w' ⟨u, he, hr⟩
  exact ⟨u, he, Lib.hid (h.list hr)⟩
theorem pd_in (h : PD w w1 Z b N nbs v ql qg gd x) (hl : ql.length ≤ 1000) (a : Arc) : Calls Try.prog 8 #[v, vA a] Z fun e w' => e = .returned (.bool (decide (a ∈ ql))) ∧ Hid (PD w w1 w' b N nbs v ql qg gd x) := by
  refine (gin_any a Z (h.arcs hl)).mono ?_
  rintro e w' ⟨he, hr⟩
  exact ⟨he, Lib.hid (h.below hr)⟩
theorem pd_right (h : PD w w1 Z b N nbs v ql qg gd x) (a : Arc) : Calls Try.prog 9 #[.int .i64 (N : Int), vA a] Z fun e w' => e = .returned (.bool (decide (rightO N a))) ∧ Hid (PD w w1 w' b N nbs v ql qg gd x) := by
  refine (gright_any N a Z).mono ?_
  rintro e w' ⟨he, hr⟩
  exact ⟨he, Lib.hid (h.below hr)⟩
theorem pd_of (h : PD w w1 Z b N nbs v ql qg gd x) (hl : ql.length ≤ 1000) (hk : ∀ y ∈ ql, 0 ≤ y.kd ∧ y.kd < 4) (mask : Int) : Calls Try.prog 14 #[v, .int .i64 mask] Z fun e w' => ∃ u, e = .returned u ∧ Hid (PD w w1 w' b N nbs v ql qg gd x ∧ Arcs 0 w' u (ofA ql mask)) := by
  refine (gof_any mask Z (h.arcs hl) (by omega) hk).mono ?_
  rintro e w' ⟨u, he, hr⟩
  refine ⟨u, he, Lib.hid ⟨h.below hr.1, (OwnArc.list hr.2 ?_).mono (Nat.zero_le _)⟩⟩
  have := ofA_len ql mask
  unfold ofA at this
  omega
-- what the long region's calls leave
theorem pl_held (h : Below D.heap.size D Z) (hp : HeldP v Z e Z') : e = .returned v ∧ Hid (Below D.heap.size D Z') := ⟨hp.1, Lib.hid (h.trans (hp.2.mono h.size))⟩
theorem pl_nums {ns : List Int} (h : Below D.heap.size D Z) (hl : ns.length ≤ 1000) (hp : NumsP Z ns e Z') : ∃ v, e = .returned v ∧ Lst.Ints 0 Z' v ns ∧ (∃ p c, v = .slice p ns.length c) ∧ Hid (Below D.heap.size D Z') ∧ Below Z.heap.size Z Z' := by
  obtain ⟨v, h1, h2, h3⟩ := hp
  refine ⟨v, h1, h2.ints (by omega), ?_, Lib.hid (h.trans (h3.mono h.size)), h3⟩
  obtain ⟨p, c, e, _⟩ := (h2.ints (by omega)).open_
  exact ⟨p, c, e⟩
theorem pl_ref {ns : List Int} (h : Below D.heap.size D Z) (hl : ns.length ≤ 1000) (hp : OwnNew ns Z e Z') : ∃ v, e = .returned v ∧ Lst.Ints 0 Z' v ns ∧ (∃ p c, v = .slice p ns.length c) ∧ Hid (Below D.heap.size D Z') ∧ Below Z.heap.size Z Z' := by
  obtain ⟨v, h1, h2, h3⟩ := hp
  exact pl_nums h hl ⟨v, h1, h2, h3⟩
theorem pl_arcs (h : Below D.heap.size D Z) (hl : zs.length ≤ 1000) (hp : GatP Z zs e Z') : ∃ v, e = .returned v ∧ Arcs 0 Z' v zs ∧ (∃ p c, v = .slice p zs.length c) ∧ Hid (Below D.heap.size D Z') ∧ Below Z.heap.size Z Z' := by
  obtain ⟨v, h1, h2, h3⟩ := hp
  have h4 := (OwnArc.list h2 (by omega)).mono (Nat.zero_le _)
  obtain ⟨p, c, e, _⟩ := h4.open_
  exact ⟨v, h1, h4, ⟨p, c, e⟩, Lib.hid (h.trans (h3.mono h.size)), h3⟩
theorem pl_refA (h : Below D.heap.size D Z) (hl : zs.length ≤ 1000) (hp : ArcsP zs Z e Z') : ∃ v, e = .returned v ∧ Arcs 0 Z' v zs ∧ (∃ p c, v = .slice p zs.length c) ∧ Hid (Below D.heap.size D Z') ∧ Below Z.heap.size Z Z' := by
  obtain ⟨v, h1, h3, h2⟩ := hp
  exact pl_arcs h hl ⟨v, h1, h2, h3⟩
theorem pl_same {ns : List Int} (h : Below D.heap.size D Z) (hx : Lst.Ints 0 Z v ns) (hy : Lst.Ints 0 Z u ns) : Calls Try.prog 22 #[v, u] Z fun e w' => e = .returned (.bool true) ∧ Hid (Below D.heap.size D w') := by
  refine (Lst.sameInts_yes hx hy).mono ?_
  rintro e w' ⟨h1, k, rfl⟩
  exact ⟨h1, Lib.hid (below_drewN h k)⟩
theorem pl_sameA (h : Below D.heap.size D Z) (hx : Arcs 0 Z v zs) (hy : Arcs 0 Z u zs) : Calls Try.prog 18 #[v, u] Z fun e w' => e = .returned (.bool true) ∧ Hid (Below D.heap.size D w') := by
  refine (gsame_any Z hx hy).mono ?_
  rintro e w' ⟨h1, h2⟩
  rw [decide_eq_true rfl] at h1
  exact ⟨h1, Lib.hid (h.trans (Below.mono h2 h.size))⟩
theorem pl_in (h : Below D.heap.size D Z) (hx : Arcs 0 Z v zs) (a : Arc) (r : Bool) (hr : decide (a ∈ zs) = r) : Calls Try.prog 8 #[v, vA a] Z fun e w' => e = .returned (.bool r) ∧ Hid (Below D.heap.size D w') := by
  refine (gin_any a Z hx).mono ?_
  rintro e w' ⟨h1, h2⟩
  rw [hr] at h1
  exact ⟨h1, Lib.hid (h.trans (Below.mono h2 h.size))⟩
end
end Go.Proofs.Ytpgfkggfgkafjaa.Gr
