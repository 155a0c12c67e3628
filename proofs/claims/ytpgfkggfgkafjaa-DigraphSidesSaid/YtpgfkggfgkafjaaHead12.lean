/-
  Contracts of small functions, several texts laid into one. Not a statement of the seat.
-/
import Derived.Test.YtpgfkggfgkafjaaHead11
import Derived.Test.YtpgfkggfgkafjaaLstSame
import Derived.Deep.RegionHeld3
import Derived.Carry
import Derived.Deep.DeepCutAuto
namespace Go.Proofs.Ytpgfkggfgkafjaa.Gr
open Go.ChangeShapes Go.WideShapes Go.ChangeAt Go.RowKit Base Ro F Dl Ln Rf
/-- A digraph of the call's own, two boxes, and what was there in w0. -/
def LG (w0 : World) (b : Nat) (nbs : Bool → Nat) (ga gc : Nat) (a c : Arc) (q : List Arc) (Z : World) : Prop :=
  (GQ Z w0.heap.size b 2 q nbs ∧ (w0.heap.size ≤ b ∧ ∀ s, w0.heap.size ≤ nbs s) ∧ Below w0.heap.size w0 Z) ∧ Z.heap[ga]? = some (bxA a) ∧ Z.heap[gc]? = some (bxA c)
section
variable {w0 Z Z' : World} {b ga gc : Nat} {nbs : Bool → Nat} {a c : Arc} {q q' : List Arc} {e : Ending} {v : Value}
theorem LG.below (h : LG w0 b nbs ga gc a c q Z) (hb : Below Z.heap.size Z Z') : LG w0 b nbs ga gc a c q Z' :=
  ⟨⟨h.1.1.below hb, h.1.2.1, h.1.2.2.trans (hb.mono h.1.2.2.size)⟩, (hb.block _ (heap_lt h.2.1)).trans h.2.1, (hb.block _ (heap_lt h.2.2)).trans h.2.2⟩
theorem LG.chg (h : LG w0 b nbs ga gc a c q Z) (h1 : GQ Z' w0.heap.size b 2 q' nbs) (hf : Fr (AF Z w0.heap.size b nbs) Z Z') : LG w0 b nbs ga gc a c q' Z' :=
  ⟨⟨h1, h.1.2.1, h.1.2.2.trans (h.1.1.keep hf h.1.2.1.1 h.1.2.1.2)⟩, (h.1.1.other hf h.2.1 (by decide)).trans h.2.1, (h.1.1.other hf h.2.2 (by decide)).trans h.2.2⟩
/-- What the region's loads want. -/
def CA (ga : Nat) (a : Arc) (Z : World) : Prop := Z.cell? ⟨ga, 0, none⟩ = some (.int .i64 a.fr) ∧ Z.cell? ⟨ga, 1, none⟩ = some (.int .i64 a.to) ∧ Z.cell? ⟨ga, 2, none⟩ = some (.int .i64 a.kd) ∧ Z.cell? ⟨ga, 3, none⟩ = some (.int .i64 a.lb)
theorem LG.cells (h : LG w0 b nbs ga gc a c q Z) : CA ga a Z ∧ CA gc c Z := ⟨cellsA h.2.1, cellsA h.2.2⟩
theorem lg_add (h : LG w0 b nbs ga gc a c q Z) (x : Arc) (r : Int) (he : addE 2 q x = r) (hq : addL 2 q x = q') (hl : q.length < 499) : Calls Try.prog 11 #[.pointer (some ⟨b, 0, none⟩), vA x] Z fun e w' => e = .returned (.int .i64 r) ∧ Hid (LG w0 b nbs ga gc a c q' w') := by
  refine (add_q h.1.1 (by omega) hl x).mono ?_
  rintro e w' ⟨h1, h2, h3⟩
  rw [he] at h1
  rw [hq] at h2
  exact ⟨h1, Lib.hid (h.chg h2 h3)⟩
theorem lg_drop (h : LG w0 b nbs ga gc a c q Z) (x : Arc) (r : Int) (he : (if x ∈ q then (0 : Int) else 3) = r) (hq : dropA q x = q') : Calls Try.prog 13 #[.pointer (some ⟨b, 0, none⟩), vA x] Z fun e w' => e = .returned (.int .i64 r) ∧ Hid (LG w0 b nbs ga gc a c q' w') := by
  refine (drop_q h.1.1 (by omega) x).mono ?_
  rintro e w' ⟨h1, h2, h3⟩
  rw [he] at h1
  rw [hq] at h2
  exact ⟨h1, Lib.hid (h.chg h2 h3)⟩
theorem lg_held (h : LG w0 b nbs ga gc a c q Z) (hp : HeldP v Z e Z') : e = .returned v ∧ Hid (LG w0 b nbs ga gc a c q Z') := ⟨hp.1, Lib.hid (h.below hp.2)⟩
theorem lg_nums {zs : List Int} (h : LG w0 b nbs ga gc a c q Z) (hl : zs.length ≤ 1000) (hp : NumsP Z zs e Z') : ∃ v, e = .returned v ∧ Lst.Ints 0 Z' v zs ∧ (∃ p c, v = .slice p zs.length c) ∧ Hid (LG w0 b nbs ga gc a c q Z') ∧ Below Z.heap.size Z Z' := by
  obtain ⟨v, h1, h2, h3⟩ := hp
  refine ⟨v, h1, h2.ints (by omega), ?_, Lib.hid (h.below h3), h3⟩
  obtain ⟨p, c, e, _⟩ := (h2.ints (by omega)).open_
  exact ⟨p, c, e⟩
theorem lg_arcs {zs : List Arc} (h : LG w0 b nbs ga gc a c q Z) (hl : zs.length ≤ 1000) (hp : GatP Z zs e Z') : ∃ v, e = .returned v ∧ Arcs 0 Z' v zs ∧ (∃ p c, v = .slice p zs.length c) ∧ Hid (LG w0 b nbs ga gc a c q Z') ∧ Below Z.heap.size Z Z' := by
  obtain ⟨v, h1, h2, h3⟩ := hp
  have h4 := (OwnArc.list h2 (by omega)).mono (Nat.zero_le _)
  obtain ⟨p, c, e, _⟩ := h4.open_
  exact ⟨v, h1, h4, ⟨p, c, e⟩, Lib.hid (h.below h3), h3⟩
theorem lg_same {xs : List Int} {u : Value} (h : LG w0 b nbs ga gc a c q Z) (hx : Lst.Ints 0 Z v xs) (hy : Lst.Ints 0 Z u xs) : Calls Try.prog 22 #[v, u] Z fun e w' => e = .returned (.bool true) ∧ Hid (LG w0 b nbs ga gc a c q w') := by
  refine (Lst.sameInts_yes hx hy).mono ?_
  rintro e w' ⟨h1, k, rfl⟩
  exact ⟨h1, Lib.hid (h.below (below_drewN (Below.refl _ _) k))⟩
theorem lg_sameA {xs : List Arc} {u : Value} (h : LG w0 b nbs ga gc a c q Z) (hx : Arcs 0 Z v xs) (hy : Arcs 0 Z u xs) : Calls Try.prog 18 #[v, u] Z fun e w' => e = .returned (.bool true) ∧ Hid (LG w0 b nbs ga gc a c q w') := by
  refine (gsame_any Z hx hy).mono ?_
  rintro e w' ⟨h1, h2⟩
  rw [decide_eq_true rfl] at h1
  exact ⟨h1, Lib.hid (h.below h2)⟩
end
def TruP (w : World) (e : Ending) (w' : World) : Prop := e = .returned (.bool true) ∧ Below w.heap.size w w'
end Go.Proofs.Ytpgfkggfgkafjaa.Gr
namespace Go.Proofs.Ytpgfkggfgkafjaa.Gr
open Go.ChangeShapes Go.WideShapes Go.ChangeAt Go.RowKit Base Ro F Dl Ln Rf
theorem roomL_small {n : Nat} (h : n ≤ 12) : roomL (n : Int) = n := by unfold roomL; omega
/-- A digraph that arcs were added to. -/
def SV (w Z : World) (b n k : Nat) (nbs : Bool → Nat) : Prop := (∃ q, GQ Z w.heap.size b n q nbs ∧ q.length ≤ k) ∧ Below w.heap.size w Z
set_option maxRecDepth 100000 in
set_option maxHeartbeats 16000000 in
theorem sides_any (HLV : ∀ W : World, Calls Try.prog 6 #[] W (TruP W)) {v : Value} {l : List Arc} (n mask : Int) (w : World) (h : Arcs 0 w v l) : Calls Try.prog 4 #[.int .i64 n, v, .int .i64 mask] w (TruP w) := by
  obtain ⟨p, c, rfl, hlm, hc⟩ := h.open_
  have HT := Lib.hid hc
  have HL := Lib.hid (HLV w)
  clear h hc HLV
  by_cases hn0 : n < 0
  · clear HT
    go_enter Try.func4, Try.ntmps4
    go_wp2_with fail
    refine HL.out.mono ?_
    rintro e w1 ⟨rfl, hb⟩
    have HB := Lib.hid hb
    clear hb HL
    go_wp2
    go_ret
    exact ⟨rfl, HB.out⟩
  by_cases hn12 : 12 < n
  · clear HT
    go_enter Try.func4, Try.ntmps4
    go_wp2_with fail
    refine HL.out.mono ?_
    rintro e w1 ⟨rfl, hb⟩
    have HB := Lib.hid hb
    clear hb HL
    go_wp2
    go_ret
    exact ⟨rfl, HB.out⟩
  by_cases hl1 : 100 < l.length
  · clear HT
    have hl2 : (100 : Int) < (l.length : Int) := by omega
    go_enter Try.func4, Try.ntmps4
    go_wp2_with fail
    refine HL.out.mono ?_
    rintro e w1 ⟨rfl, hb⟩
    have HB := Lib.hid hb
    clear hb HL
    go_wp2
    go_ret
    exact ⟨rfl, HB.out⟩
  obtain ⟨N, rfl⟩ := Int.eq_ofNat_of_zero_le (show 0 ≤ n by omega)
  have hN : N ≤ 12 := by omega
  have hl2 : ¬ ((100 : Int) < (l.length : Int)) := by omega
  have hl3 : l.length ≤ 100 := by omega
  obtain ⟨M, hM⟩ : ∃ M, M = l.length := ⟨_, rfl⟩
  rw [← hM] at hl2 hl3 hlm ⊢
  have HM := Lib.hid hM
  clear hM hl1
  go_enter Try.func4, Try.ntmps4
  go_wp2_with fail
  refine HL.out.mono ?_
  rintro e w1 ⟨rfl, hb⟩
  have HB1 := Lib.hid hb
  clear hb HL
  go_wp2_with fail
  refine (new_q (N : Int) w1).mono ?_
  rintro e w2 ⟨b, nbs, rfl, hq, hbn, hb⟩
  rw [roomL_small hN] at hq
  have HS0 : Hid (SV w1 w2 b N 0 nbs) := Lib.hid ⟨⟨[], hq, Nat.le_refl _⟩, hb⟩
  have HBN := Lib.hid hbn
  clear hq hbn hb
  go_wp2_with fail
  go_loopw [35] (fun s35 wr => ∃ k : Nat, s35 = .int .i64 (k : Int) ∧ k ≤ M ∧ Hid (SV w1 wr b N k nbs)) (fun s35 _ => M - (intOf s35).toNat)
  case atStart => exact ⟨0, rfl, Nat.zero_le _, HS0⟩
  case round =>
    clear HS0
    obtain ⟨k, rfl, hk, HS⟩ := hrel
    by_cases hlt : k < M
    · obtain ⟨g, o, rfl, _, hg, c0, c1, c2, c3⟩ := HT.out k (by have := HM.out; omega)
      have hbw : Below w.heap.size w wr := HB1.out.trans (HS.out.2.mono HB1.out.size)
      have c0 := (hbw.cell (p := ⟨g, _, none⟩) hg).trans c0
      have c1 := (hbw.cell (p := ⟨g, _, none⟩) hg).trans c1
      have c2 := (hbw.cell (p := ⟨g, _, none⟩) hg).trans c2
      have c3 := (hbw.cell (p := ⟨g, _, none⟩) hg).trans c3
      have hg := Nat.lt_of_lt_of_le hg hbw.size
      have hkI : (k : Int) < (M : Int) := by omega
      generalize l.getD k Arc.zero = x at c0 c1 c2 c3
      have HA : Hid (∀ o, Calls Try.prog 11 #[.pointer (some ⟨b, 0, none⟩), vA x] (wr.alloc o) fun e w' => (∃ r, e = .returned (.int .i64 r)) ∧ SV w1 w' b N (k + 1) nbs) := Lib.hid fun o => by
        obtain ⟨⟨q, hq, hql⟩, hbq⟩ := HS.out
        have ho : Below wr.heap.size wr (wr.alloc o) := (Below.refl _ _).alloc (Nat.le_refl _) _
        refine (add_q (hq.below ho) (by omega) (by omega) x).mono ?_
        rintro e w' ⟨rfl, h1, h2⟩
        exact ⟨⟨_, rfl⟩, ⟨_, h1, by have := addL_len N q x; omega⟩, (hbq.trans (ho.mono hbq.size)).trans ((hq.below ho).keep h2 HBN.out.1 HBN.out.2)⟩
      obtain ⟨x0, x1, x2, x3⟩ := x
      unfold vA at HA
      simp only at c0 c1 c2 c3 HA
      clear HS hbw
      go_wp2_with fail
      refine (HA.out _).mono ?_
      rintro e w4 ⟨⟨r, rfl⟩, h4⟩
      have H4 := Lib.hid h4
      clear h4 HA
      go_wp2_with fail
      go_roundw
      case rel => exact ⟨k + 1, by go_num, hlt, H4⟩
      case measure => simp [intOf]; omega
    · have hke : k = M := by omega
      subst hke
      obtain ⟨wB, hwB⟩ : ∃ wB, wB = wr := ⟨_, rfl⟩
      subst hwB
      obtain ⟨⟨q, hq, hql⟩, hbq⟩ := HS.out
      have HQ : Hid (GQ wB w1.heap.size b N q nbs ∧ Below w.heap.size w wB ∧ q.length ≤ 100) := Lib.hid ⟨hq, HB1.out.trans (hbq.mono HB1.out.size), by omega⟩
      have hGD := hq.1
      have HAL := Lib.hid (allT_len (by omega : N ≤ 4096) hGD mask)
      have HAN := Lib.hid (allT_all (by omega : N ≤ 4096) hGD mask)
      have HA14 := Lib.hid (all14 (by omega : N ≤ 4096) hGD)
      have hN4 : N ≤ 4096 := by omega
      have HPL : Hid ((ofA q mask).length ≤ 100) := Lib.hid (by have := ofA_len q mask; omega)
      have HPM : Hid (∀ x ∈ ofA q mask, x ∈ q) := Lib.hid fun x hx => (List.mem_filter.1 hx).1
      clear HS hq hql hbq hGD HB1 HT HM hlt hk HBN
      obtain ⟨P, hP⟩ : ∃ P, P = ofA q mask := ⟨_, rfl⟩
      rw [← hP] at HAL HAN HPL HPM
      go_wp2_with fail
      go_loopw [10, 11] (fun s10 s11 wr => ∃ (u : Nat) (v : Value), s11 = .int .i64 (u : Int) ∧ v = s10 ∧ u ≤ N ∧ Hid (Below wB.heap.size wB wr ∧ OwnArc wB.heap.size wr v (allT P u))) (fun _ s11 _ => N - (intOf s11).toNat)
      case atStart => exact ⟨0, _, rfl, rfl, Nat.zero_le _, Lib.hid ⟨Below.refl _ _, OwnArc.nil _ _⟩⟩
      case round =>
        obtain ⟨u, v, rfl, rfl, hu, HS⟩ := hrel
        obtain ⟨wC, hwC⟩ : ∃ wC, wC = wr := ⟨_, rfl⟩
        subst hwC
        by_cases hlt : u < N
        · have huI : (u : Int) < (N : Int) := by omega
          have HO : Hid (∀ W, Below wB.heap.size wB W → Calls Try.prog 20 #[.pointer (some ⟨b, 0, none⟩), .int .i64 (u : Int), .int .i64 mask] W (GatP W (P.filter fun x => x.fr == (u : Int)))) := Lib.hid fun W hW => by rw [hP]; exact out_q (HQ.out.1.below hW) hN4 mask u
          have HNX : Hid (∀ W, Below wB.heap.size wB W → Calls Try.prog 23 #[.pointer (some ⟨b, 0, none⟩), .int .i64 (u : Int), .int .i64 mask] W (NumsP W (sideO P (u : Int) false))) := Lib.hid fun W hW => by rw [hP]; exact next_q (HQ.out.1.below hW) hN4 mask u
          have HPV : Hid (∀ W (z : Int), Below wB.heap.size wB W → Calls Try.prog 25 #[.pointer (some ⟨b, 0, none⟩), .int .i64 z, .int .i64 mask] W (NumsP W (sideO P z true))) := Lib.hid fun W z hW => by rw [hP]; exact prev_q (HQ.out.1.below hW) hN4 mask z
          have HHS : Hid (∀ W (x : Arc), Below wB.heap.size wB W → Calls Try.prog 17 #[.pointer (some ⟨b, 0, none⟩), vA x] W (HeldP (.bool (decide (x ∈ q))) W)) := Lib.hid fun W x hW => has_q (HQ.out.1.below hW) hN4 x
          have HSL : Hid (∀ z back, (sideO P z back).length ≤ 100) := Lib.hid fun z back => by have := sideO_len P z back; have := HPL.out; omega
          have HFL : Hid ((P.filter fun x => x.fr == (u : Int)).length ≤ 100) := Lib.hid (Nat.le_trans (List.length_filter_le _ _) HPL.out)
          have HAU : Hid ((allT P u).length ≤ 100) := Lib.hid (by have := HAL.out u; have := HQ.out.2.2; omega)
          have HO1 := Lib.hid (HO.out _ HS.out.1)
          go_wp2_with fail
          refine HO1.out.mono ?_
          rintro e wD ⟨v52, rfl, ho52, hbD⟩
          have HD : Hid ((Below wB.heap.size wB wD ∧ OwnArc wB.heap.size wD v (allT P u)) ∧ Arcs 0 wD v52 (P.filter fun x => x.fr == (u : Int))) := Lib.hid ⟨⟨HS.out.1.trans (hbD.mono HS.out.1.size), HS.out.2.below hbD⟩, (OwnArc.list ho52 (by have := HFL.out; omega)).mono (Nat.zero_le _)⟩
          clear ho52 hbD HO1 HS
          go_wp2_with (at_builtin; refine append_arcs rfl (.tmp 48) (.tmp 52) rfl HD.out.1.1.size HD.out.1.2 rfl HD.out.2 rfl (by have := HFL.out; have := HAU.out; omega) ?_; intro v8 w8 h8 hg8 _; have H8 : Hid (Below wB.heap.size wB w8 ∧ OwnArc wB.heap.size w8 v8 (allT P (u + 1))) := Lib.hid ⟨Below.grown HD.out.1.1 hg8 HD.out.1.1.size (fun q hq => (HD.out.1.2.base q hq).1), h8⟩; clear h8 hg8)
          have HN1 := Lib.hid (HNX.out _ H8.out.1)
          refine HN1.out.mono ?_
          rintro e w9 ⟨vN, rfl, hoN, hb9⟩
          have H9 : Hid ((Below wB.heap.size wB w9 ∧ OwnArc wB.heap.size w9 v8 (allT P (u + 1))) ∧ Lst.Ints 0 w9 vN (sideO P (u : Int) false)) := Lib.hid ⟨⟨H8.out.1.trans (hb9.mono H8.out.1.size), H8.out.2.below hb9⟩, hoN.ints (by have := HSL.out (u : Int) false; omega)⟩
          clear hoN hb9 HN1 H8 HD
          go_wp2_with fail
          go_loopw [13] (fun s13 wr => ∃ z : Nat, s13 = .int .i64 (z : Int) ∧ z ≤ N ∧ Hid (Below w9.heap.size w9 wr)) (fun s13 _ => N - (intOf s13).toNat)
          case atStart => exact ⟨0, rfl, Nat.zero_le _, Lib.hid (Below.refl _ _)⟩
          case round =>
            obtain ⟨z, rfl, hz, HZ⟩ := hrel
            by_cases hlz : z < N
            · have hzI : (z : Int) < (N : Int) := by omega
              have HI1 := Lib.hid (in_any (z : Int) wr (H9.out.2.below HZ.out))
              have HPZ := Lib.hid (HPV.out wr (z : Int) (H9.out.1.1.trans (HZ.out.mono H9.out.1.1.size)))
              have hsb := sides_both P (u : Int) (z : Int)
              rw [hsb] at HI1
              obtain ⟨r, hr⟩ : ∃ r, r = decide ((u : Int) ∈ sideO P (z : Int) true) := ⟨_, rfl⟩
              rw [← hr] at HI1
              have HR := Lib.hid hr
              clear hsb hr
              go_wp2_with fail
              refine HI1.out.mono ?_
              rintro e wx ⟨rfl, rfl⟩
              go_wp2_with fail
              refine HPZ.out.mono ?_
              rintro e wE ⟨vP, rfl, hoP, hbE⟩
              have HE : Hid (Below w9.heap.size w9 wE) := Lib.hid (HZ.out.trans (hbE.mono HZ.out.size))
              have HI2 := Lib.hid (in_any (u : Int) wE (hoP.ints (by have := HSL.out (z : Int) true; omega)))
              rw [← HR.out] at HI2
              clear hoP hbE HPZ HI1 HZ
              go_wp2_with fail
              refine HI2.out.mono ?_
              rintro e wx ⟨rfl, rfl⟩
              clear HI2 HR
              cases r <;>
              · go_wp2_with fail
                go_roundw
                case rel => exact ⟨z + 1, by go_num, hlz, HE⟩
                case measure => simp [intOf]; omega
            · have hze : z = N := by omega
              subst hze
              have HE : Hid (Below wB.heap.size wB wr) := Lib.hid (H9.out.1.1.trans (HZ.out.mono H9.out.1.1.size))
              have HO2 := Lib.hid (HO.out wr HE.out)
              clear hlz hz
              go_wp2_with fail
              refine HO2.out.mono ?_
              rintro e wF ⟨v76, rfl, ho76, hbF⟩
              obtain ⟨p76, c76, hv76, _, hc76⟩ := (OwnArc.list ho76 (by have := HFL.out; omega)).open_
              subst hv76
              obtain ⟨K, hK⟩ : ∃ K, K = (P.filter fun x => x.fr == (u : Int)).length := ⟨_, rfl⟩
              rw [← hK]
              have HC76 : Hid (∀ k, k < K → ∃ g o, p76 = some ⟨g, o, none⟩ ∧ g < wF.heap.size ∧ (wF.cell? ⟨g, o + k * 4, none⟩ = some (.int .i64 ((P.filter fun x => x.fr == (u : Int)).getD k Arc.zero).fr) ∧ wF.cell? ⟨g, o + k * 4 + 1, none⟩ = some (.int .i64 ((P.filter fun x => x.fr == (u : Int)).getD k Arc.zero).to) ∧ wF.cell? ⟨g, o + k * 4 + 2, none⟩ = some (.int .i64 ((P.filter fun x => x.fr == (u : Int)).getD k Arc.zero).kd) ∧ wF.cell? ⟨g, o + k * 4 + 3, none⟩ = some (.int .i64 ((P.filter fun x => x.fr == (u : Int)).getD k Arc.zero).lb)) ∧ ((P.filter fun x => x.fr == (u : Int)).getD k Arc.zero) ∈ P ∧ ((P.filter fun x => x.fr == (u : Int)).getD k Arc.zero).fr = (u : Int)) := Lib.hid fun k hk => by
                obtain ⟨g, o, e1, _, e2, e3, e4, e5, e6⟩ := hc76 k (by rw [← hK]; exact hk)
                have hm := getD_in (xs := P.filter fun x => x.fr == (u : Int)) (k := k) (by omega)
                rw [List.mem_filter, beq_iff_eq] at hm
                exact ⟨g, o, e1, e2, ⟨e3, e4, e5, e6⟩, hm.1, hm.2⟩
              have HF : Hid ((Below wB.heap.size wB wF ∧ OwnArc wB.heap.size wF v8 (allT P (u + 1))) ∧ Lst.Ints 0 wF vN (sideO P (u : Int) false)) := Lib.hid (by
                have hb9F := HZ.out.trans (hbF.mono HZ.out.size)
                exact ⟨⟨HE.out.trans (hbF.mono HE.out.size), H9.out.1.2.below hb9F⟩, H9.out.2.below hb9F⟩)
              have hK5 : K ≤ 100 := by have := HFL.out; omega
              clear ho76 hbF hc76 hK HO2 HE HZ H9
              go_wp2_with fail
              go_loopw [78] (fun s78 wr => ∃ k : Nat, s78 = .int .i64 (k : Int) ∧ k ≤ K ∧ Hid (Below wF.heap.size wF wr)) (fun s78 _ => K - (intOf s78).toNat)
              case atStart => exact ⟨0, rfl, Nat.zero_le _, Lib.hid (Below.refl _ _)⟩
              case round =>
                obtain ⟨k, rfl, hk, HZ⟩ := hrel
                by_cases hlk : k < K
                · obtain ⟨g, o, rfl, hg, ⟨c0, c1, c2, c3⟩, hmP, hfr⟩ := HC76.out k hlk
                  have hkI : (k : Int) < (K : Int) := by omega
                  have c0 := (HZ.out.cell (p := ⟨g, _, none⟩) hg).trans c0
                  have c1 := (HZ.out.cell (p := ⟨g, _, none⟩) hg).trans c1
                  have c2 := (HZ.out.cell (p := ⟨g, _, none⟩) hg).trans c2
                  have c3 := (HZ.out.cell (p := ⟨g, _, none⟩) hg).trans c3
                  have hg := Nat.lt_of_lt_of_le hg HZ.out.size
                  generalize (P.filter fun x => x.fr == (u : Int)).getD k Arc.zero = x at c0 c1 c2 c3 hmP hfr
                  obtain ⟨X, hX⟩ : ∃ X, X = wr.alloc (bxA x) := ⟨_, rfl⟩
                  have hbX : Below wF.heap.size wF X := by rw [hX]; exact HZ.out.alloc HZ.out.size _
                  have HHX := Lib.hid (HHS.out X x (HF.out.1.1.trans (hbX.mono HF.out.1.1.size)))
                  rw [decide_eq_true (HPM.out x hmP)] at HHX
                  have HTO : Hid (x.to ∈ sideO P (u : Int) false) := Lib.hid (mem_next.2 ⟨x, hmP, hfr, rfl⟩)
                  have HBX : Hid (Below wF.heap.size wF X ∧ X.heap[wr.heap.size]? = some (bxA x)) := Lib.hid ⟨hbX, by rw [hX]; exact heap_alloc_at _ _ _ rfl⟩
                  obtain ⟨x0, x1, x2, x3⟩ := x
                  unfold bxA at hX
                  unfold vA at HHX
                  simp only at c0 c1 c2 c3 hfr HTO HHX hX
                  subst hfr
                  have hne : ((u : Int) != (u : Int)) = false := by rw [bne_eq_false_iff_eq]
                  clear hmP hbX HZ
                  obtain ⟨bx, hbx⟩ : ∃ bx, bx = wr.heap.size := ⟨_, rfl⟩
                  rw [← hbx] at HBX
                  go_upto_region 27 with fail
                  rw [← hX, ← hbx]
                  clear hX hbx c0 c1 c2 c3 hg
                  obtain ⟨d0, d1, d2, d3⟩ := cellsA HBX.out.2
                  have hbl := heap_lt HBX.out.2
                  go_wp2_with fail
                  refine HHX.out.mono ?_
                  rintro e wG ⟨rfl, hbG⟩
                  have HBG : Hid (Below wF.heap.size wF wG ∧ wG.heap[bx]? = some (bxA ⟨(u : Int), x1, x2, x3⟩)) := Lib.hid ⟨HBX.out.1.trans (hbG.mono HBX.out.1.size), (hbG.block _ hbl).trans HBX.out.2⟩
                  clear hbG HHX HBX d0 d1 d2 d3 hbl
                  obtain ⟨d0, d1, d2, d3⟩ := cellsA HBG.out.2
                  have HI3 := Lib.hid (in_any x1 wG (HF.out.2.below HBG.out.1))
                  rw [decide_eq_true HTO.out] at HI3
                  go_wp2_with fail
                  refine HI3.out.mono ?_
                  rintro e wx ⟨rfl, rfl⟩
                  clear HI3 HTO
                  go_wp2_with fail
                  go_roundw
                  case rel => exact ⟨k + 1, by go_num, hlk, Lib.hid HBG.out.1⟩
                  case measure => simp [intOf]; omega
                · have hke : k = K := by omega
                  subst hke
                  have HNEXT : Hid (Below wB.heap.size wB wr ∧ OwnArc wB.heap.size wr v8 (allT P (u + 1))) := Lib.hid ⟨HF.out.1.1.trans (HZ.out.mono HF.out.1.1.size), HF.out.1.2.below HZ.out⟩
                  clear HC76 hlk hk HZ HF
                  go_wp2_with fail
                  go_roundw
                  case rel => exact ⟨u + 1, v8, by go_num, rfl, hlt, HNEXT⟩
                  case measure => simp [intOf]; omega
        · have hue : u = N := by omega
          subst hue
          have HAV : Hid (OwnArc wB.heap.size wC v P) := Lib.hid (by have := HS.out.2; rwa [HAN.out] at this)
          have HAR : Hid (∀ W, Below wB.heap.size wB W → Calls Try.prog 19 #[.pointer (some ⟨b, 0, none⟩), .int .i64 mask] W (GatP W P)) := Lib.hid fun W hW => by rw [hP]; exact arcs_q (HQ.out.1.below hW) hN4 mask
          have HAR14 : Hid (∀ W, Below wB.heap.size wB W → Calls Try.prog 19 #[.pointer (some ⟨b, 0, none⟩), .int .i64 14] W (GatP W q)) := Lib.hid fun W hW => by
            have := arcs_q (HQ.out.1.below hW) hN4 14
            rwa [HA14.out] at this
          have HLN : Hid (∀ W, Below wB.heap.size wB W → Calls Try.prog 16 #[.pointer (some ⟨b, 0, none⟩)] W (HeldP (.int .i64 (q.length : Int)) W)) := Lib.hid fun W hW => len_q (HQ.out.1.below hW)
          have HB0 := Lib.hid HS.out.1
          have HA1 := Lib.hid (HAR.out wC HS.out.1)
          clear HS hlt hu HAN HAL
          go_wp2_with fail
          refine HA1.out.mono ?_
          rintro e w5 ⟨v5, rfl, ho5, hb5⟩
          have H5 : Hid (Below wB.heap.size wB w5) := Lib.hid (HB0.out.trans (hb5.mono HB0.out.size))
          have HSM := Lib.hid (gsame_any w5 ((OwnArc.list (HAV.out.below hb5) (by have := HPL.out; omega)).mono (Nat.zero_le _)) ((OwnArc.list ho5 (by have := HPL.out; omega)).mono (Nat.zero_le _)))
          rw [decide_eq_true rfl] at HSM
          clear ho5 hb5 HA1 HAV
          go_wp2_with fail
          refine HSM.out.mono ?_
          rintro e w6 ⟨rfl, hb6⟩
          have H6 : Hid (Below wB.heap.size wB w6) := Lib.hid (H5.out.trans (Below.mono hb6 H5.out.size))
          have HA2 := Lib.hid (HAR14.out w6 H6.out)
          clear hb6 HSM H5
          go_wp2_with fail
          refine HA2.out.mono ?_
          rintro e w7 ⟨v7, rfl, ho7, hb7⟩
          have H7 : Hid (Below wB.heap.size wB w7) := Lib.hid (H6.out.trans (hb7.mono H6.out.size))
          obtain ⟨p7, c7, hv7, _⟩ := (OwnArc.list ho7 (by have := HQ.out.2.2; omega)).open_
          subst hv7
          have HL2 := Lib.hid (HLN.out w7 H7.out)
          have HEN : Hid (∀ W, Below wB.heap.size wB W → Below w.heap.size w W) := Lib.hid fun W hW => HQ.out.2.1.trans (hW.mono HQ.out.2.1.size)
          generalize q.length = Q at *
          clear ho7 hb7 HA2 H6 HPM HA14 HQ
          go_wp2_with fail
          refine HL2.out.mono ?_
          rintro e w8 ⟨rfl, hb8⟩
          have H8 : Hid (Below w.heap.size w w8) := Lib.hid (HEN.out w8 (H7.out.trans (hb8.mono H7.out.size)))
          clear hb8 HL2
          go_wp2
          go_ret
          exact ⟨ret_bool (by simp), H8.out⟩
end Go.Proofs.Ytpgfkggfgkafjaa.Gr
