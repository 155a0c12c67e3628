/-
  Contracts of small functions, several texts laid into one. Not a statement of the seat.
-/
import Derived.Test.YtimgdkafennohaaHead18
import Derived.Test.YtimgdkafennohaaLstSame
import Derived.Deep.RegionHeld3
import Derived.Carry
import Derived.Deep.DeepCutAuto
namespace Go.Proofs.Ytimgdkafennohaa.Gr
open Go.ChangeShapes Go.WideShapes Go.ChangeAt Go.RowKit Base Ro F Dl Ln Rf
/-- A digraph of the call's own, two boxes, and what was there in w0. -/
def LG (w0 : World) (b : Nat) (nbs : Bool → Nat) (ga gc : Nat) (a c : Arc) (q : List Arc) (Z : World) : Prop :=
  (GQ Z w0.heap.size b 2 q nbs ∧ (w0.heap.size ≤ b ∧ ∀ s, w0.heap.size ≤ nbs s) ∧ Below w0.heap.size w0 Z) ∧ Z.heap[ga]? = some (bxA a) ∧ Z.heap[gc]? = some (bxA c)
section
variable {w0 Z Z' : World} {b ga gc : Nat} {nbs : Bool → Nat} {a c : Arc} {q q' : List Arc} {e : Ending} {v : Value}
theorem LG.below (h : LG w0 b nbs ga gc a c q Z) (hb : Below Z.heap.size Z Z') : LG w0 b nbs ga gc a c q Z' :=
  ⟨⟨h.1.1.below hb, h.1.2.1, h.1.2.2.trans (hb.mono h.1.2.2.size)⟩, (hb.block _ (heap_lt h.2.1)).trans h.2.1, (hb.block _ (heap_lt h.2.2)).trans h.2.2⟩
theorem LG.chg (h : LG w0 b nbs ga gc a c q Z) (h1 : GQ Z' w0.heap.size b 2 q' nbs) (hf : Fr (AF Z w0.heap.size b nbs) Z Z') : LG w0 b nbs ga gc a c q' Z' :=
  ⟨⟨h1, h.1.2.1, h.1.2.2.trans (h.1.1.keep hf h.1.2.1.1 h.1.2.1.2)⟩, (h.1.1.other hf h.2.1 (by decide)).trans h.2.1, (h.1.1.other hf h.2.2 (by decide)).trans h.2.2⟩
/-- What the region's loads want. -/
def CA (ga : Nat) (a : Arc) (Z : World) : Prop := Z.cell? ⟨ga, 0, none⟩ = some (.int .i64 a.fr) ∧ Z.cell? ⟨ga, 1, none⟩ = some (.int .i64 a.to) ∧ Z.cell? ⟨ga, 2, none⟩ = some (.int .i64 a.kd) ∧ Z.cell? ⟨ga, 3, none⟩ = some (.int .i64 a.lb)
theorem LG.cells (h : LG w0 b nbs ga gc a c q Z) : CA ga a Z ∧ CA gc c Z := ⟨cellsA h.2.1, cellsA h.2.2⟩
theorem lg_add (h : LG w0 b nbs ga gc a c q Z) (x : Arc) (r : Int) (he : addE 2 q x = r) (hq : addL 2 q x = q') (hl : q.length < 499) : Calls Try.prog 13 #[.pointer (some ⟨b, 0, none⟩), vA x] Z fun e w' => e = .returned (.int .i64 r) ∧ Hid (LG w0 b nbs ga gc a c q' w') := by
  refine (add_q h.1.1 (by omega) hl x).mono ?_
  rintro e w' ⟨h1, h2, h3⟩
  rw [he] at h1
  rw [hq] at h2
  exact ⟨h1, Lib.hid (h.chg h2 h3)⟩
theorem lg_held (h : LG w0 b nbs ga gc a c q Z) (hp : HeldP v Z e Z') : e = .returned v ∧ Hid (LG w0 b nbs ga gc a c q Z') := ⟨hp.1, Lib.hid (h.below hp.2)⟩
theorem lg_nums {zs : List Int} (h : LG w0 b nbs ga gc a c q Z) (hl : zs.length ≤ 1000) (hp : NumsP Z zs e Z') : ∃ v, e = .returned v ∧ Lst.Ints 0 Z' v zs ∧ (∃ p c, v = .slice p zs.length c) ∧ Hid (LG w0 b nbs ga gc a c q Z') ∧ Below Z.heap.size Z Z' := by
  obtain ⟨v, h1, h2, h3⟩ := hp
  refine ⟨v, h1, h2.ints (by omega), ?_, Lib.hid (h.below h3), h3⟩
  obtain ⟨p, c, e, _⟩ := (h2.ints (by omega)).open_
  exact ⟨p, c, e⟩
theorem lg_arcs {zs : List Arc} (h : LG w0 b nbs ga gc a c q Z) (hl : zs.length ≤ 1000) (hp : GatP Z zs e Z') : ∃ v, e = .returned v ∧ Arcs 0 Z' v zs ∧ (∃ p c, v = .slice p zs.length c) ∧ Hid (LG w0 b nbs ga gc a c q Z') ∧ Below Z.heap.size Z Z' := by
  obtain ⟨v, h1, h2, h3⟩ := hp
  have h4 := (OwnArc.list h2 (by omega)).mono (Nat.zero_le _)
  obtain ⟨p, c, e, _⟩ := h4.open_
  exact ⟨v, h1, h4, ⟨p, c, e⟩, Lib.hid (h.below h3), h3⟩
theorem lg_same {xs : List Int} {u : Value} (h : LG w0 b nbs ga gc a c q Z) (hx : Lst.Ints 0 Z v xs) (hy : Lst.Ints 0 Z u xs) : Calls Try.prog 10 #[v, u] Z fun e w' => e = .returned (.bool true) ∧ Hid (LG w0 b nbs ga gc a c q w') := by
  refine (Lst.sameInts_yes hx hy).mono ?_
  rintro e w' ⟨h1, k, rfl⟩
  exact ⟨h1, Lib.hid (h.below (below_drewN (Below.refl _ _) k))⟩
end
def TruP (w : World) (e : Ending) (w' : World) : Prop := e = .returned (.bool true) ∧ Below w.heap.size w w'
end Go.Proofs.Ytimgdkafennohaa.Gr
namespace Go.Proofs.Ytimgdkafennohaa.Gr
open Go.ChangeShapes Go.WideShapes Go.ChangeAt Go.RowKit Base Ro F Dl Ln Rf
/-- The arcs of a digraph to which some were added. -/
def madeA (n : Nat) (l : List Arc) : List Arc := l.foldl (addL n) []
theorem madeA_snoc (n : Nat) (l : List Arc) (a : Arc) : madeA n (l ++ [a]) = addL n (madeA n l) a := by unfold madeA; rw [List.foldl_append]; rfl
theorem madeA_len (n : Nat) : ∀ (l q : List Arc), (l.foldl (addL n) q).length ≤ q.length + l.length
  | [], q => by simp
  | a :: l, q => by
    have h1 := addL_len n q a
    have h2 := madeA_len n l (addL n q a)
    rw [List.foldl_cons, List.length_cons]
    omega
/-- What Made leaves. -/
def MadeP (w : World) (n : Nat) (q : List Arc) (e : Ending) (w' : World) : Prop := ∃ b nbs, e = .returned (.pointer (some ⟨b, 0, none⟩)) ∧ GQ w' w.heap.size b n q nbs ∧ (w.heap.size ≤ b ∧ ∀ s, w.heap.size ≤ nbs s) ∧ Below w.heap.size w w'
/-- Where its loop is. -/
def MV (w Z : World) (b n : Nat) (nbs : Bool → Nat) (q : List Arc) : Prop := GQ Z w.heap.size b n q nbs ∧ Below w.heap.size w Z
set_option maxRecDepth 100000 in
set_option maxHeartbeats 4000000 in
theorem made_any (n : Int) {v : Value} {l : List Arc} (w : World) (h : Arcs 0 w v l) (hl : l.length ≤ 400) : Calls Try.prog 5 #[.int .i64 n, v] w (MadeP w (roomL n) (madeA (roomL n) l)) := by
  obtain ⟨p, c, rfl, hlm, hc⟩ := h.open_
  have HT := Lib.hid hc
  have HNEW := Lib.hid (new_q n w)
  have hr := roomL_le n
  obtain ⟨N, hN⟩ : ∃ N, N = roomL n := ⟨_, rfl⟩
  rw [← hN] at HNEW hr ⊢
  obtain ⟨M, hM⟩ : ∃ M, M = l.length := ⟨_, rfl⟩
  have hMi : (M : Int) ≤ 400 := by omega
  rw [← hM] at hl hlm ⊢
  have HTK : Hid (∀ k, k < M → l.take (k + 1) = l.take k ++ [l.getD k Arc.zero]) := Lib.hid fun k hk => by
    have hk2 : k < l.length := by omega
    rw [List.take_succ_eq_append_getElem hk2]
    simp [List.getD_eq_getElem?_getD, hk2]
  have HTE : Hid (l.take M = l) := Lib.hid (by rw [hM, List.take_length])
  have HLEN : Hid (∀ k, (madeA N (l.take k)).length ≤ 400) := Lib.hid fun k => by
    have := madeA_len N (l.take k) []
    rw [List.length_take] at this
    unfold madeA
    simp at this
    omega
  have HM := Lib.hid hM
  clear h hc hM hN
  go_enter Try.func5, Try.ntmps5
  go_wp2_with fail
  refine HNEW.out.mono ?_
  rintro e w2 ⟨b, nbs, rfl, hq, hbn, hb⟩
  have HS0 : Hid (MV w w2 b N nbs (madeA N (l.take 0))) := Lib.hid ⟨hq, hb⟩
  have HBN := Lib.hid hbn
  clear hq hbn hb HNEW
  go_wp2_with fail
  go_loopw [12] (fun s12 wr => ∃ k : Nat, s12 = .int .i64 (k : Int) ∧ k ≤ M ∧ Hid (MV w wr b N nbs (madeA N (l.take k)))) (fun s12 _ => M - (intOf s12).toNat)
  case atStart => exact ⟨0, rfl, Nat.zero_le _, HS0⟩
  case round =>
    clear HS0
    obtain ⟨k, rfl, hk, HS⟩ := hrel
    by_cases hlt : k < M
    · obtain ⟨g, o, rfl, _, hg, c0, c1, c2, c3⟩ := HT.out k (by have := HM.out; omega)
      have hbw := HS.out.2
      have c0 := (hbw.cell (p := ⟨g, _, none⟩) hg).trans c0
      have c1 := (hbw.cell (p := ⟨g, _, none⟩) hg).trans c1
      have c2 := (hbw.cell (p := ⟨g, _, none⟩) hg).trans c2
      have c3 := (hbw.cell (p := ⟨g, _, none⟩) hg).trans c3
      have hg := Nat.lt_of_lt_of_le hg hbw.size
      have hkI : (k : Int) < (M : Int) := by omega
      have HK := Lib.hid (HTK.out k hlt)
      have hln := HLEN.out k
      generalize l.getD k Arc.zero = x at c0 c1 c2 c3 HK
      have HA : Hid (∀ o, Calls Try.prog 13 #[.pointer (some ⟨b, 0, none⟩), vA x] (wr.alloc o) fun e w' => (∃ r, e = .returned (.int .i64 r)) ∧ MV w w' b N nbs (madeA N (l.take (k + 1)))) := Lib.hid fun o => by
        obtain ⟨hq, hbq⟩ := HS.out
        have ho : Below wr.heap.size wr (wr.alloc o) := (Below.refl _ _).alloc (Nat.le_refl _) _
        refine (add_q (hq.below ho) hr (by omega) x).mono ?_
        rintro e w' ⟨rfl, h1, h2⟩
        refine ⟨⟨_, rfl⟩, ?_, (hbq.trans (ho.mono hbq.size)).trans ((hq.below ho).keep h2 HBN.out.1 HBN.out.2)⟩
        rw [HK.out, madeA_snoc]
        exact h1
      obtain ⟨x0, x1, x2, x3⟩ := x
      unfold vA at HA
      simp only at c0 c1 c2 c3 HA
      clear HS hbw HK hln
      go_wp2_with fail
      refine (HA.out _).mono ?_
      rintro e w4 ⟨⟨r, rfl⟩, h4⟩
      have H4 := Lib.hid h4
      clear h4 HA
      go_wp2_with fail
      go_roundw
      case rel => exact ⟨k + 1, by go_num, hlt, H4⟩
      case measure => simp [intOf]; omega
    · have hke : k = M := by omega
      subst hke
      have h := HS.out
      rw [HTE.out] at h
      have HF := Lib.hid h
      clear h HS HT
      go_wp2
      go_ret
      exact ⟨b, nbs, rfl, HF.out.1, HBN.out, HF.out.2⟩
end Go.Proofs.Ytimgdkafennohaa.Gr
