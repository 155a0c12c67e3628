/-
  Contracts of small functions, several texts laid into one. Not a statement of the seat.
-/
import Derived.Test.YtimgdkafennohaaHead14
namespace Go.Proofs.Ytimgdkafennohaa.Gr
open Go.ChangeShapes Go.WideShapes Go.ChangeAt Go.RowKit Go.Shelf Base Ro F Dl Ln
attribute [local go_sem] Oper.semAt_some
def markD (D : Nat) : Deferred := { target := .collected D, args := #[] }
theorem leaves_marks {F : Fence} {n : Nat} {P : Program} {fn : Func} {tmps : Array Value} {R : Ending → World → Prop} (B : Nat) (Keep : World → Prop) (hk : ∀ W l, Keep W → B ≤ l → W.heap[l]? = some (.deferred (some [])) → Keep (W.putObj l (.deferred none)))
    (hr : ∀ W, Keep W → ∃ v, (results fn tmps).run P W = .ok v W ∧ R (.returned v) W) : ∀ (Ds : List Nat) (W : World), Ds.Nodup → (∀ D ∈ Ds, B ≤ D ∧ W.heap[D]? = some (.deferred (some []))) → Keep W → LeavesInM F n P fn tmps R (Ds.map markD) .returning W
  | [], W, _, _, hW => by
    obtain ⟨v, h1, h2⟩ := hr W hW
    exact ⟨v, h1, h2⟩
  | D :: Ds, W, hn, hd, hW => by
    rw [List.nodup_cons] at hn
    obtain ⟨hB0, h0⟩ := hd D (by simp)
    refine ⟨by simp, .inl ⟨D, _, rfl, run_takeDeferred h0, ?_⟩⟩
    refine leaves_marks B Keep hk hr Ds _ hn.2 (fun E hE => ⟨(hd E (by simp [hE])).1, ?_⟩) (hk W D hW hB0 h0)
    exact (World.putObj_heap_other (fun e => by rw [e] at hE; exact hn.1 hE)).trans (hd E (by simp [hE])).2
/-- A mask's bit. -/
def mbit (mask : Int) (k : Nat) : Bool := !(bits .and .i64 (mask / 2 ^ k) 1 == 0)
def fstN (a k : Nat) : Nat := a * 17179869184 + k * 4294967296
def kindL (xs : List Nat) (a : Nat) (mask : Int) (k : Nat) : List Arc := if mbit mask k then (selX xs (fstN a k) (fstN a k + 4294967296)).map arcX else []
/-- Those of the kinds ahead of k. -/
def outT (xs : List Nat) (a : Nat) (mask : Int) : Nat → List Arc
  | 0 => []
  | k + 1 => outT xs a mask k ++ (if k = 0 then [] else kindL xs a mask k)
theorem selX_len (xs : List Nat) (f t : Nat) : (selX xs f t).length ≤ xs.length := by
  unfold selX
  exact Nat.le_trans (List.takeWhile_sublist _).length_le (by rw [List.length_drop]; omega)
theorem tw_lt (t : Nat) : ∀ (l : List Nat) (x : Nat), x ∈ l.takeWhile (fun x => decide (x < t)) → x < t
  | [], _, h => by simp at h
  | y :: l, x, h => by
    rw [List.takeWhile_cons] at h
    split at h
    · rename_i hy
      rcases List.mem_cons.1 h with rfl | h
      · simpa using hy
      · exact tw_lt t l x h
    · cases h
theorem selX_lt {xs : List Nat} {f t x : Nat} (h : x ∈ selX xs f t) : x < t := tw_lt t _ x h
theorem outT_len (xs : List Nat) (a : Nat) (mask : Int) : ∀ k, (outT xs a mask k).length ≤ k * xs.length
  | 0 => by simp [outT]
  | k + 1 => by
    unfold outT
    rw [List.length_append]
    have := outT_len xs a mask k
    have h2 : (if k = 0 then [] else kindL xs a mask k).length ≤ xs.length := by
      split
      · simp
      · unfold kindL
        split
        · rw [List.length_map]; exact selX_len _ _ _
        · simp
    rw [Nat.succ_mul]
    omega
theorem own_put {B l : Nat} {W : World} {v : Value} {zs : List Arc} {o o' : Obj} (h : OwnArc B W v zs) (hl : W.heap[l]? = some o) (hc : o.isCells = false) : OwnArc B (W.putObj l o') v zs :=
  ownA_same h fun g hg => by
    obtain ⟨_, _, cur, hcur⟩ := ownA_cells h hg
    refine World.putObj_heap_other fun e => ?_
    rw [e, hl] at hcur
    injection hcur with hcur
    rw [hcur] at hc
    cases hc
theorem below_putO {B l : Nat} {w W : World} {o' : Obj} (h : Below B w W) (hl : B ≤ l) (hB : B ≤ W.heap.size) : Below B w (W.putObj l o') :=
  h.grown (row := some l) ⟨rfl, rfl, rfl, by simp, fun k _ hk => World.putObj_heap_other (fun e => hk (by rw [e]))⟩ hB (fun k e => by cases e; exact hl)
/-- What gather's loop holds. -/
def GK (w0 : World) (E : Nat) (zs : List Arc) (W : World) (Ds : List Nat) : Prop :=
  Below w0.heap.size w0 W ∧ (∃ v, W.heap[E]? = some (.cells #[v] 22) ∧ OwnArc w0.heap.size W v zs) ∧ Ds.Nodup ∧ ∀ D ∈ Ds, w0.heap.size ≤ D ∧ W.heap[D]? = some (.deferred (some []))
def GatP (w0 : World) (zs : List Arc) (e : Ending) (w' : World) : Prop := ∃ v, e = .returned v ∧ OwnArc w0.heap.size w' v zs ∧ Below w0.heap.size w0 w'
set_option maxRecDepth 100000 in
set_option maxHeartbeats 16000000 in
theorem gather_any {w0 w : World} {B b n : Nat} {xs : List Nat} {nbs : Bool → Nat} {Vs : Bool → Nat → Value} {cnt : Bool → Nat → Nat → Nat → Int} (h : GS w0 B b n xs nbs Vs cnt) (hn : n ≤ 4096) (hw : Below w0.heap.size w0 w) {v0 : Value} {zs0 : List Arc} (ho : OwnArc w0.heap.size w v0 zs0) (hz : zs0.length ≤ 900000) {a : Nat} (ha : a < n) (mask : Int) :
    Calls Try.prog 29 #[.pointer (some ⟨b, 0, none⟩), v0, .int .i64 (a : Int), .int .i64 mask] w (GatP w0 (zs0 ++ outT xs a mask 4)) := by
  obtain ⟨p0, q0, c0, hv0⟩ : ∃ p n c, v0 = .slice p n c := by
    rcases ownA_form ho with ⟨_, hv⟩ | ⟨g, cap, hv, _⟩
    · exact ⟨_, _, _, hv⟩
    · exact ⟨_, _, _, hv⟩
  subst hv0
  have hln := h.good.2.1
  have HX := Lib.hid h
  obtain ⟨V, hgb, hls⟩ := h.own
  have HB := Lib.hid (And.intro hgb (And.intro hls h.good))
  obtain ⟨W1, hW1⟩ : ∃ W1, W1 = w.alloc (.cells #[.slice p0 q0 c0] 22) := ⟨_, rfl⟩
  obtain ⟨E, hE⟩ : ∃ E, E = w.heap.size := ⟨_, rfl⟩
  have HG0 : Hid (GK w0 E (zs0 ++ outT xs a mask 1) W1 []) := Lib.hid (by
    have hbw : Below w.heap.size w W1 := by rw [hW1]; exact (Below.refl _ _).alloc (Nat.le_refl _) _
    refine ⟨hw.trans (hbw.mono hw.size), ⟨_, by rw [hE, hW1]; exact heap_alloc_at _ _ _ rfl, ?_⟩, List.nodup_nil, fun D hD => by cases hD⟩
    have e : zs0 ++ outT xs a mask 1 = zs0 := by simp [outT]
    rw [e]
    exact ho.below hbw)
  have HE : Hid (w0.heap.size ≤ E) := Lib.hid (by rw [hE]; exact hw.size)
  have han : (a : Int) < 4096 := by omega
  clear h hgb hls hw ho ha
  refine (callsIn_wide (n := 5)).1 ?_
  refine callsIn_of_wp_marks Try.func29 rfl trivial ?_ rfl
  simp only [Try.ntmps29, List.size_toArray, List.length_cons, List.length_nil, Nat.reduceAdd, Nat.reduceSub, Array.replicate_succ, Array.replicate_zero, List.push_toArray, List.append_toArray, List.nil_append, List.cons_append]
  gi_wp2_with fail
  rw [← hW1, ← hE]
  clear hW1 hE
  refine wpIn_loop (fun a' W' => ∃ (k : Nat) (Ds : List Nat) (u10 u11 u12 u13 u14 u15 u16 u17 u18 u19 u20 u21 u22 u23 u24 u25 u26 u27 u28 u29 u30 u31 u32 u33 u34 u35 u36 u37 : Value), a' = { tmps := #[.pointer (some ⟨b, 0, none⟩), .slice p0 q0 c0, .int .i64 (a : Int), .int .i64 mask, undef, .pointer (some ⟨E, 0, none⟩), undef, undef, .slice none 0 0, .int .i64 (k : Int), u10, u11, u12, u13, u14, u15, u16, u17, u18, u19, u20, u21, u22, u23, u24, u25, u26, u27, u28, u29, u30, u31, u32, u33, u34, u35, u36, u37, undef], defers := Ds.map markD } ∧ (1 ≤ k ∧ k ≤ 4) ∧ Hid (GK w0 E (zs0 ++ outT xs a mask k) W' Ds)) (fun a' _ => 4 - (intOf (a'.tmps.getD 9 undef)).toNat) ?start ?round
  case start => exact ⟨1, [], undef, undef, undef, undef, undef, undef, undef, undef, undef, undef, undef, undef, undef, undef, undef, undef, undef, undef, undef, undef, undef, undef, undef, undef, undef, undef, undef, undef, rfl, ⟨by omega, by omega⟩, HG0⟩
  case round =>
    clear HG0
    rintro a' W ⟨k, Ds, u10, u11, u12, u13, u14, u15, u16, u17, u18, u19, u20, u21, u22, u23, u24, u25, u26, u27, u28, u29, u30, u31, u32, u33, u34, u35, u36, u37, rfl, ⟨hk1, hk4⟩, HG⟩
    by_cases hk : k = 4
    · subst hk
      obtain ⟨hb, ⟨v, hv, hov⟩, hnd, hds⟩ := HG.out
      have hEl : W.cell? ⟨E, 0, none⟩ = some v := by simp [World.cell?, hv]
      have HK : Hid ((OwnArc w0.heap.size W v (zs0 ++ outT xs a mask 4) ∧ Below w0.heap.size w0 W) ∧ Ds.Nodup ∧ ∀ D ∈ Ds, w0.heap.size ≤ D ∧ W.heap[D]? = some (.deferred (some []))) := Lib.hid ⟨⟨hov, hb⟩, hnd, hds⟩
      obtain ⟨pv, qv, cv, hvf⟩ : ∃ p n c, v = .slice p n c := by
        rcases ownA_form hov with ⟨_, hv⟩ | ⟨g, cap, hv, _⟩
        · exact ⟨_, _, _, hv⟩
        · exact ⟨_, _, _, hv⟩
      subst hvf
      clear hb hv hov hnd hds HG
      gi_wp2
      exact leaves_marks w0.heap.size (fun Z => OwnArc w0.heap.size Z (.slice pv qv cv) (zs0 ++ outT xs a mask 4) ∧ Below w0.heap.size w0 Z) (fun Z l hZ hB hl => ⟨own_put hZ.1 hl rfl, below_putO hZ.2 hB hZ.2.size⟩) (fun Z hZ => ⟨_, results_tmp rfl _ _ _, _, rfl, hZ.1, hZ.2⟩) Ds W HK.out.2.1 HK.out.2.2 HK.out.1
    · have hk3 : k ≤ 3 := by omega
      have hki : (k : Int) < 4 := by omega
      by_cases hm : mbit mask k = true
      · have hmb : (bits .and .i64 (mask / 2 ^ k) 1 == 0) = false := by unfold mbit at hm; simpa using hm
        obtain ⟨f, hf⟩ : ∃ f, f = fstN a k := ⟨_, rfl⟩
        obtain ⟨t, ht⟩ : ∃ t, t = f + 4294967296 := ⟨_, rfl⟩
        have hf46 : f + 4294967296 ≤ 70368744177664 := by rw [hf]; unfold fstN; omega
        have hadd : IntKind.u64.wrap ((f : Int) + 4294967296) = (t : Int) := by rw [IntKind.wrap_u64, ht]; omega
        have HNUM : Hid (∀ Y, Calls Try.prog 21 #[.agg #[.int .i64 (a : Int), .int .i64 0, .int .i64 (k : Int), .int .i64 0]] Y fun e w' => e = .returned (.int .u64 (f : Int)) ∧ Below Y.heap.size Y w') := Lib.hid fun Y => by
          have := number_any (a : Int) 0 (k : Int) 0 (by omega) (by omega) (by omega) (by omega) (by omega) (by omega) (by omega) (by omega) Y
          rw [show numI (a : Int) 0 (k : Int) 0 = ((f : Nat) : Int) by rw [hf]; unfold numI fstN; omega] at this
          exact this
        have HSL : Hid (zs0 ++ outT xs a mask (k + 1) = (zs0 ++ outT xs a mask k) ++ (selX xs f t).map arcX ∧ (zs0 ++ outT xs a mask k).length + (selX xs f t).length ≤ 950000 ∧ ∀ x ∈ selX xs f t, x < 70368744177664) := Lib.hid (by
          refine ⟨?_, ?_, fun x hx => ?_⟩
          · rw [outT, if_neg (by omega)]
            unfold kindL
            rw [if_pos hm, ← hf, ← ht, List.append_assoc]
          · have h1 := outT_len xs a mask k
            have h2 := selX_len xs f t
            have h3 : k * xs.length ≤ 3 * xs.length := Nat.mul_le_mul_right _ hk3
            rw [List.length_append]
            omega
          · have := selX_lt hx; omega)
        generalize zs0 ++ outT xs a mask k = zs1 at *
        clear hm hf ht hf46 hz
        gi_wp2_with fail
        refine ⟨trivial, (callsIn_wide.2 (HNUM.out _)).mono ?_⟩
        rintro e w1 ⟨rfl, hb1⟩
        have HB1 := Lib.hid hb1
        clear hb1 HNUM
        gi_wp2_with fail
        refine ⟨trivial, (callsIn_wide.2 (between_any f t _)).mono ?_⟩
        rintro e w2 ⟨rfl, hw2⟩
        have HW2 := Lib.hid hw2
        clear hw2
        obtain ⟨g1, hg1⟩ : ∃ g1, g1 = w1.heap.size := ⟨_, rfl⟩
        rw [← hg1]
        have HG1 := Lib.hid hg1
        have HGI : Hid (GI w0 E b g1 (g1 + 1) (g1 + 2) f t zs1 [] w2 ∧ (∀ D ∈ Ds, w0.heap.size ≤ D ∧ w2.heap[D]? = some (.deferred (some [])) ∧ D < w2.heap.size) ∧ Ds.Nodup) := Lib.hid (by
          obtain ⟨hb, ⟨v, hv, hov⟩, hnd, hds⟩ := HG.out
          have hb1 := HB1.out
          have hb2 : Below w1.heap.size w1 w2 := by
            rw [HW2.out]
            exact (((Below.refl _ _).alloc (Nat.le_refl _) _).alloc (by simp) _).alloc (by simp; omega) _
          have hb12 := hb1.trans (hb2.mono hb1.size)
          refine ⟨⟨hb.trans (hb12.mono hb.size), ⟨v, (hb12.block _ (heap_lt hv)).trans hv, ?_⟩, ?_, ?_, ?_⟩, fun D hD => ?_, hnd⟩
          · rw [List.map_nil, List.append_nil]; exact hov.below hb12
          · rw [HW2.out, HG1.out]
            exact heap_alloc_lt _ _ _ _ (heap_alloc_lt _ _ _ _ (heap_alloc_at _ _ _ rfl))
          · rw [HW2.out, HG1.out]
            exact heap_alloc_lt _ _ _ _ (heap_alloc_at _ _ _ (by simp))
          · rw [HW2.out, HG1.out]
            exact heap_alloc_at _ _ _ (by simp)
          · obtain ⟨q1, q2⟩ := hds D hD
            have q3 := (hb12.block _ (heap_lt q2)).trans q2
            exact ⟨q1, q3, heap_lt q3⟩)
        clear HB1 HW2 HG1 hg1 HG hmb hadd
        gi_wp2_with fail
        have HWB : Hid (w0.heap.size ≤ w2.heap.size) := Lib.hid HGI.out.1.1.size
        refine range_bt (w0 := w0) (w := w2) (c0 := g1) (c1 := g1 + 1) (c2 := g1 + 2) (b := b) (f := f) (t := t) (m := 4) HB.out.2.1 HB.out.2.2 rfl rfl
          (fun ss Z => GI w0 E b g1 (g1 + 1) (g1 + 2) f t zs1 ss Z ∧ ∀ D ∈ Ds, w0.heap.size ≤ D ∧ Z.heap[D]? = some (.deferred (some [])) ∧ D < w2.heap.size)
          (fun ss Z Z' hZ hb => ⟨hZ.1.below hb, fun D hD => ⟨(hZ.2 D hD).1, (hb.block _ (heap_lt (hZ.2 D hD).2.1)).trans (hZ.2 D hD).2.1, (hZ.2 D hD).2.2⟩⟩)
          (fun ss Z l o o' hZ h1 h2 h3 => ⟨hZ.1.put o' h1 h2 (Nat.le_trans HWB.out h3), fun D hD => ⟨(hZ.2 D hD).1, (World.putObj_heap_other (fun e => by have := (hZ.2 D hD).2.2; omega)).trans (hZ.2 D hD).2.1, (hZ.2 D hD).2.2⟩⟩)
          (fun ss Z hZ => hZ.1.bt HB.out.1) ⟨HGI.out.1, HGI.out.2.1⟩ ?a1 ?assign ?body ?done
        case assign =>
          intro l x Z K hK
          gi_wp2
          exact hK
        case body =>
          rintro l ss x rest Z hsel ⟨hG, hD⟩
          have HD := Lib.hid (And.intro hG hD)
          obtain ⟨hbz, ⟨v, hv, hov⟩, _⟩ := hG
          obtain ⟨L, hL⟩ : ∃ L, L = zs1 ++ ss.map arcX := ⟨_, rfl⟩
          have hlen : L.length ≤ 950000 := by
            have h1 := HSL.out.2.1
            have h2 := congrArg List.length hsel
            rw [List.length_append, List.length_cons] at h2
            rw [hL, List.length_append, List.length_map]
            omega
          have hx46 : x < 70368744177664 := HSL.out.2.2 x (by rw [hsel]; simp)
          obtain ⟨N, hN⟩ : ∃ N, N = L.length := ⟨_, rfl⟩
          obtain ⟨p, c, hvf⟩ : ∃ p c, v = .slice p N c := by
            rw [← hL] at hov
            rcases ownA_form hov with ⟨hz, hv⟩ | ⟨g, cap, hv, _⟩
            · exact ⟨none, 0, by rw [hv, hN, hz]; rfl⟩
            · exact ⟨_, _, by rw [hv, hN]⟩
          subst hvf
          have HO : Hid (OwnArc w0.heap.size Z (.slice p N c) (zs1 ++ ss.map arcX) ∧ Z.heap[E]? = some (.cells #[.slice p N c] 22) ∧ w0.heap.size ≤ Z.heap.size ∧ (zs1 ++ ss.map arcX).length + 1 ≤ 1000000 ∧ (zs1 ++ ss.map arcX).length = N) := Lib.hid ⟨hov, hv, hbz.size, by rw [← hL]; omega, by rw [← hL, hN]⟩
          have HARC := Lib.hid (fun Y => arcx_any x hx46 Y)
          have HRD := Lib.hid (fun (u w5 : World) (v5 : Value) (ob : Obj) (hu : Below Z.heap.size Z u) h5 hg => GI.round (x := x) (w2 := u) (w5 := w5) (v5 := v5) (ob := ob) HD.out.1 HE.out hv hu h5 hg hov)
          have hcx : Z.cell? ⟨E, 0, none⟩ = some (.slice p N c) := by simp [World.cell?, hv]
          have HB2 : Hid (∀ u, Below Z.drew.heap.size Z.drew u → u.cell? ⟨E, 0, none⟩ = some (.slice p N c) ∧ E < u.heap.size) := Lib.hid fun u hu => by
            have := (hu.block E (heap_lt hv)).trans hv
            exact ⟨by simp [World.cell?, this], heap_lt this⟩
          have HEZ := heap_lt hv
          have HS5 : Hid (∀ u w5 v5, Below Z.drew.heap.size Z.drew u → OwnArc w0.heap.size w5 v5 ((zs1 ++ ss.map arcX) ++ [arcX x]) → (u.alloc (.cells #[.int .i64 (arcX x).fr, .int .i64 (arcX x).to, .int .i64 (arcX x).kd, .int .i64 (arcX x).lb] 32)).grownBy w5 (Value.slice p N c).ownBlock → RPc (fun ss Z => GI w0 E b g1 (g1 + 1) (g1 + 2) f t zs1 ss Z ∧ ∀ D ∈ Ds, w0.heap.size ≤ D ∧ Z.heap[D]? = some (.deferred (some [])) ∧ D < w2.heap.size) ss x Z .normal { tmps := #[], defers := [] } (w5.setCell ⟨E, 0, none⟩ v5) ∧ w5.cell? ⟨E, 0, none⟩ = some (.slice p N c) ∧ w5.frozen? ⟨E, 0, none⟩ = false) := Lib.hid fun u w5 v5 hu h5 hg => by
            obtain ⟨r1, r2⟩ := HRD.out u w5 v5 _ ((Below.refl Z.heap.size Z).drew.trans hu) h5 hg
            refine ⟨⟨r1, r2, fun D hD => ⟨(HD.out.2 D hD).1, r1.2 _ _ (HD.out.2 D hD).2.1 rfl, (HD.out.2 D hD).2.2⟩⟩, ?_⟩
            have e : w5.heap[E]? = some (.cells #[.slice p N c] 22) := by
              have hu2 := hu.size
              have h3 : u.heap[E]? = some (.cells #[.slice p N c] 22) := (hu.block E (heap_lt hv)).trans hv
              refine (hg.block E (by have := heap_lt h3; simp only [World.size_alloc]; omega) (fun e => ?_)).trans ((Below.heap_alloc _ _ _ (heap_lt h3)).trans h3)
              obtain ⟨_, _, cur, hcur⟩ := ownA_cells hov e.symm
              rw [hv] at hcur
              injection hcur with hcur; injection hcur with _ hcur; exact absurd hcur (by decide)
            exact ⟨by simp [World.cell?, e], by simp [World.frozen?, e]⟩
          clear hbz hv hov hL hlen hN hsel hx46 hD HRD
          generalize arcX x = y at HARC HS5
          obtain ⟨y0, y1, y2, y3⟩ := y
          dsimp only at HARC HS5
          gi_wp2_with fail
          refine wpIn_region_any (by kernel_rfl) ?_
          try (change wpAnyIn _ _ _ _ _ _ _ _ _ (World.drew _))
          refine joinA (fun u => Hid (Below Z.drew.heap.size Z.drew u)) ?G (fun HJ => ?fork) ?rest
          case fork =>
            refine wpAnyIn_ready (rs := [0, 1]) (by kernel_rfl) (by simp) ?_
            refine AllReadyIn.cons rfl (fun K hK => ?_) ?_
            · go_simp
              try (refine hK _ _ ?_; clear hK K)
              refine wpAnyIn_ready (rs := [1]) (by kernel_rfl) (by simp) ?_
              refine AllReadyIn.cons rfl (fun K hK => ?_) ?_
              · go_simp
                try (refine hK _ _ ?_; clear hK K)
                refine wpAnyIn_ready (rs := [2]) (by kernel_rfl) (by simp) ?_
                refine AllReadyIn.cons rfl (fun K hK => ?_) ?_
                · go_simp
                  (refine ⟨trivial, ((callsIn_wide.2 (HARC.out _)).inRound l).mono ?_⟩; rintro e w3 ⟨rfl, hb3⟩; have HA2 := Lib.hid hb3; clear hb3; obtain ⟨cx2, kx2⟩ := HB2.out _ HA2.out; gi_wp2)
                  try (refine hK _ _ ?_; clear hK K)
                  refine wpAnyIn_ready (rs := [3]) (by kernel_rfl) (by simp) ?_
                  refine AllReadyIn.cons rfl (fun K hK => ?_) ?_
                  · go_simp
                    try (refine hK _ _ ?_; clear hK K)
                    exact HJ _ HA2
                  exact AllReadyIn.nil
                exact AllReadyIn.nil
              exact AllReadyIn.nil
            refine AllReadyIn.cons rfl (fun K hK => ?_) ?_
            · go_simp
              try (refine hK _ _ ?_; clear hK K)
              refine wpAnyIn_ready (rs := [0, 2]) (by kernel_rfl) (by simp) ?_
              refine AllReadyIn.cons rfl (fun K hK => ?_) ?_
              · go_simp
                try (refine hK _ _ ?_; clear hK K)
                refine wpAnyIn_ready (rs := [2]) (by kernel_rfl) (by simp) ?_
                refine AllReadyIn.cons rfl (fun K hK => ?_) ?_
                · go_simp
                  (refine ⟨trivial, ((callsIn_wide.2 (HARC.out _)).inRound l).mono ?_⟩; rintro e w3 ⟨rfl, hb3⟩; have HA2 := Lib.hid hb3; clear hb3; obtain ⟨cx2, kx2⟩ := HB2.out _ HA2.out; gi_wp2)
                  try (refine hK _ _ ?_; clear hK K)
                  refine wpAnyIn_ready (rs := [3]) (by kernel_rfl) (by simp) ?_
                  refine AllReadyIn.cons rfl (fun K hK => ?_) ?_
                  · go_simp
                    try (refine hK _ _ ?_; clear hK K)
                    exact HJ _ HA2
                  exact AllReadyIn.nil
                exact AllReadyIn.nil
              refine AllReadyIn.cons rfl (fun K hK => ?_) ?_
              · go_simp
                (refine ⟨trivial, ((callsIn_wide.2 (HARC.out _)).inRound l).mono ?_⟩; rintro e w3 ⟨rfl, hb3⟩; have HA2 := Lib.hid hb3; clear hb3; obtain ⟨cx2, kx2⟩ := HB2.out _ HA2.out; gi_wp2)
                try (refine hK _ _ ?_; clear hK K)
                refine wpAnyIn_ready (rs := [0, 3]) (by kernel_rfl) (by simp) ?_
                refine AllReadyIn.cons rfl (fun K hK => ?_) ?_
                · go_simp
                  try (refine hK _ _ ?_; clear hK K)
                  refine wpAnyIn_ready (rs := [3]) (by kernel_rfl) (by simp) ?_
                  refine AllReadyIn.cons rfl (fun K hK => ?_) ?_
                  · go_simp
                    try (refine hK _ _ ?_; clear hK K)
                    exact HJ _ HA2
                  exact AllReadyIn.nil
                refine AllReadyIn.cons rfl (fun K hK => ?_) ?_
                · go_simp
                  try (refine hK _ _ ?_; clear hK K)
                  refine wpAnyIn_ready (rs := [0]) (by kernel_rfl) (by simp) ?_
                  refine AllReadyIn.cons rfl (fun K hK => ?_) ?_
                  · go_simp
                    try (refine hK _ _ ?_; clear hK K)
                    exact HJ _ HA2
                  exact AllReadyIn.nil
                exact AllReadyIn.nil
              exact AllReadyIn.nil
            exact AllReadyIn.nil
          case rest =>
            intro w3 HA3
            obtain ⟨cx3, kx3⟩ := HB2.out _ HA3.out
            refine wpAnyIn_ready (rs := [4]) (by kernel_rfl) (by simp) ?_
            refine AllReadyIn.cons rfl (fun K hK => ?_) AllReadyIn.nil
            refine stepIn_append_arcs rfl (.tmp 33) (.tmp 36) rfl (B := w0.heap.size) (zs := zs1 ++ ss.map arcX) (ys := [⟨y0, y1, y2, y3⟩]) ?b1 ?b2 rfl (arc_lit ⟨y0, y1, y2, y3⟩ w3) rfl HO.out.2.2.2.1 ?b3
            case b1 => have := HO.out.2.2.1; have := HA3.out.size; simp only [World.size_alloc]; have e : Z.drew.heap.size = Z.heap.size := rfl; omega
            case b2 => exact (OwnArc.below (w := Z) HO.out.1 ((Below.refl Z.heap.size Z).drew.trans HA3.out)).below ((Below.refl _ _).alloc (Nat.le_refl _) _)
            case b3 =>
              intro v5 w5 h5 hg5 hat5
              obtain ⟨p5, c5, hv5⟩ := ownA_snoc h5 HO.out.2.2.2.2
              subst hv5
              have HR := HS5.out w3 w5 _ HA3.out h5 hg5
              obtain ⟨hR, cx5, fx5⟩ := HR
              have HRR := Lib.hid hR
              clear hR h5 hg5 hat5 cx3 kx3
              refine hK _ _ ?_
              clear hK K
              refine wpAnyIn_ready (rs := [5]) (by kernel_rfl) (by simp) ?_
              refine AllReadyIn.cons rfl (fun K hK => ?_) AllReadyIn.nil
              go_simp
              refine hK _ _ ?_
              clear hK K
              refine wpAnyIn_done (by kernel_rfl) ?_ _
              exact HRR.out
        case done =>
          rintro D Z hDZ ⟨hG, hD⟩ hK
          have HN : Hid (GK w0 E (zs0 ++ outT xs a mask (k + 1)) Z (D :: Ds)) := Lib.hid (by
            obtain ⟨hbz, ⟨v, hv, hov⟩, _⟩ := hG
            refine ⟨hbz, ⟨v, hv, ?_⟩, ?_, fun F hF => ?_⟩
            · rw [HSL.out.1]; exact hov
            · rw [List.nodup_cons]
              exact ⟨fun hm => by have := (hD D hm).2.2; omega, HGI.out.2.2⟩
            · rcases List.mem_cons.1 hF with rfl | hF
              · exact ⟨Nat.le_trans HWB.out hDZ, hK⟩
              · exact ⟨(hD F hF).1, (hD F hF).2.1⟩)
          clear hG hD hK hDZ HGI HWB HSL
          gi_wp2_with fail
          exact ⟨⟨k + 1, D :: Ds, _, _, _, _, _, _, _, _, _, _, _, _, _, _, _, _, _, _, _, _, _, _, _, _, _, _, _, _, rfl, ⟨by omega, by omega⟩, HN⟩, by simp [intOf]; omega⟩
      · have hmb : (bits .and .i64 (mask / 2 ^ k) 1 == 0) = true := by unfold mbit at hm; simpa using hm
        have HN : Hid (GK w0 E (zs0 ++ outT xs a mask (k + 1)) W Ds) := Lib.hid (by
          have e : outT xs a mask (k + 1) = outT xs a mask k := by
            rw [outT, if_neg (by omega)]
            unfold kindL
            rw [if_neg hm, List.append_nil]
          rw [e]
          exact HG.out)
        clear hm HG
        gi_wp2_with fail
        exact ⟨⟨k + 1, Ds, _, _, _, _, _, _, _, _, _, _, _, _, _, _, _, _, _, _, _, _, _, _, _, _, _, _, _, _, rfl, ⟨by omega, by omega⟩, HN⟩, by simp [intOf]; omega⟩
end Go.Proofs.Ytimgdkafennohaa.Gr
namespace Go.Proofs.Ytimgdkafennohaa.Gr
open Go.ChangeShapes Go.WideShapes Go.ChangeAt Go.RowKit Go.Shelf Base Ro F Dl Ln
theorem filter_app {p q : Nat → Bool} (hpq : ∀ x y, p x = true → q y = true → x < y) : ∀ {xs : List Nat}, xs.Pairwise (· < ·) → xs.filter p ++ xs.filter q = xs.filter (fun x => p x || q x)
  | [], _ => rfl
  | z :: l, h => by
    rw [List.pairwise_cons] at h
    have ih := filter_app hpq h.2
    cases hp : p z with
    | true =>
      have hq : q z = false := by
        cases hq : q z with
        | false => rfl
        | true => exact absurd (hpq z z hp hq) (Nat.lt_irrefl _)
      simp only [List.filter_cons, hp, hq, Bool.true_or, if_true, List.cons_append, Bool.false_eq_true, if_false]
      rw [ih]
    | false =>
      cases hq : q z with
      | true =>
        have he : l.filter p = [] := by
          rw [List.filter_eq_nil_iff]
          intro x hx hpx
          have := h.1 x hx
          have := hpq x z hpx hq
          omega
        rw [he, List.nil_append] at ih
        simp only [List.filter_cons, hp, hq, Bool.or_true, if_true, Bool.false_eq_true, if_false, he, List.nil_append]
        rw [ih]
      | false =>
        simp only [List.filter_cons, hp, hq, Bool.or_false, Bool.false_eq_true, if_false]
        exact ih
theorem tw_filter (t : Nat) : ∀ {l : List Nat}, l.Pairwise (· < ·) → l.takeWhile (fun x => decide (x < t)) = l.filter (fun x => decide (x < t))
  | [], _ => rfl
  | y :: l, h => by
    rw [List.pairwise_cons] at h
    rw [List.takeWhile_cons, List.filter_cons]
    by_cases hy : y < t
    · rw [if_pos (by simpa using hy), if_pos (by simpa using hy), tw_filter t h.2]
    · rw [if_neg (by simpa using hy), if_neg (by simpa using hy)]
      symm
      rw [List.filter_eq_nil_iff]
      intro x hx
      have := h.1 x hx
      simp only [decide_eq_true_eq]
      omega
theorem selX_filter (f t : Nat) : ∀ {xs : List Nat}, xs.Pairwise (· < ·) → selX xs f t = xs.filter (fun x => decide (f ≤ x) && decide (x < t))
  | [], _ => rfl
  | y :: l, h => by
    have h' := h
    rw [List.pairwise_cons] at h
    have ih := selX_filter f t h.2
    unfold selX at ih ⊢
    unfold posU
    by_cases hy : y < f
    · rw [if_pos hy, List.drop_succ_cons, ih, List.filter_cons, if_neg (by simp; omega)]
    · rw [if_neg hy, List.drop_zero, tw_filter t h']
      refine List.filter_congr fun x hx => ?_
      have hfx : f ≤ x := by
        rcases List.mem_cons.1 hx with rfl | hx
        · omega
        · have := h.1 x hx; omega
      simp [hfx]
def kdN (x : Nat) : Nat := x / 4294967296 % 4
def frN (x : Nat) : Nat := x / 17179869184
theorem kindL_filter {xs : List Nat} (h : xs.Pairwise (· < ·)) (a : Nat) (mask : Int) {k : Nat} (hk : k < 4) : kindL xs a mask k = (xs.filter (fun x => decide (frN x = a ∧ kdN x = k) && mbit mask (kdN x))).map arcX := by
  unfold kindL
  by_cases hm : mbit mask k = true
  · rw [if_pos hm, selX_filter _ _ h]
    congr 1
    refine List.filter_congr fun x _ => ?_
    by_cases hx : frN x = a ∧ kdN x = k
    · rw [decide_eq_true hx, hx.2, hm]
      unfold frN kdN at hx
      unfold fstN
      simp only [Bool.and_true, Bool.and_eq_true, decide_eq_true_eq]
      omega
    · rw [decide_eq_false hx, Bool.false_and]
      unfold frN kdN at hx
      unfold fstN
      simp only [Bool.and_eq_false_iff, decide_eq_false_iff_not]
      omega
  · rw [if_neg hm]
    symm
    rw [List.map_eq_nil_iff, List.filter_eq_nil_iff]
    intro x _ hx
    simp only [Bool.and_eq_true, decide_eq_true_eq] at hx
    rw [hx.1.2] at hx
    exact hm hx.2
theorem outT_filter {xs : List Nat} (h : xs.Pairwise (· < ·)) (a : Nat) (mask : Int) : ∀ k, k ≤ 4 → outT xs a mask k = (xs.filter (fun x => decide (frN x = a ∧ 1 ≤ kdN x ∧ kdN x < k) && mbit mask (kdN x))).map arcX
  | 0, _ => by
    symm
    rw [outT, List.map_eq_nil_iff, List.filter_eq_nil_iff]
    intro x _ hx
    simp only [Bool.and_eq_true, decide_eq_true_eq] at hx
    omega
  | k + 1, hk => by
    rw [outT, outT_filter h a mask k (by omega)]
    by_cases h0 : k = 0
    · rw [if_pos h0, List.append_nil]
      congr 1
      refine List.filter_congr fun x _ => ?_
      congr 1
      rw [decide_eq_decide]
      omega
    · rw [if_neg h0, kindL_filter h a mask (by omega), ← List.map_append, filter_app (fun x y hx hy => ?_) h]
      · congr 1
        refine List.filter_congr fun x _ => ?_
        rw [← Bool.and_or_distrib_right]
        congr 1
        rw [← Bool.decide_or, decide_eq_decide]
        omega
      · have h1 := (Bool.and_eq_true_iff.1 hx).1
        have h2 := (Bool.and_eq_true_iff.1 hy).1
        have h1 := of_decide_eq_true h1
        have h2 := of_decide_eq_true h2
        unfold frN kdN at h1 h2
        omega
/-- All arcs of a mask whose node is ahead of n. -/
def arcsT (xs : List Nat) (mask : Int) : Nat → List Arc
  | 0 => []
  | n + 1 => arcsT xs mask n ++ outT xs n mask 4
theorem arcsT_filter {xs : List Nat} (h : xs.Pairwise (· < ·)) (mask : Int) : ∀ n, arcsT xs mask n = (xs.filter (fun x => decide (frN x < n ∧ 1 ≤ kdN x) && mbit mask (kdN x))).map arcX
  | 0 => by
    symm
    rw [arcsT, List.map_eq_nil_iff, List.filter_eq_nil_iff]
    intro x _ hx
    simp only [Bool.and_eq_true, decide_eq_true_eq] at hx
    omega
  | n + 1 => by
    rw [arcsT, arcsT_filter h mask n, outT_filter h n mask 4 (by omega), ← List.map_append, filter_app (fun x y hx hy => ?_) h]
    · congr 1
      refine List.filter_congr fun x _ => ?_
      rw [← Bool.and_or_distrib_right]
      congr 1
      rw [← Bool.decide_or, decide_eq_decide]
      unfold kdN
      omega
    · have h1 := of_decide_eq_true (Bool.and_eq_true_iff.1 hx).1
      have h2 := of_decide_eq_true (Bool.and_eq_true_iff.1 hy).1
      unfold frN at h1 h2
      omega
theorem arcsT_len {xs : List Nat} (h : xs.Pairwise (· < ·)) (mask : Int) (n : Nat) : (arcsT xs mask n).length ≤ xs.length := by
  rw [arcsT_filter h, List.length_map]
  exact List.length_filter_le _ _
end Go.Proofs.Ytimgdkafennohaa.Gr
namespace Go.Proofs.Ytimgdkafennohaa.Gr
open Go.ChangeShapes Go.WideShapes Go.ChangeAt Go.RowKit Go.Shelf Base Ro F Dl Ln
theorem out_out {w : World} {pv : Value} {m n : Nat} (h : GrV w pv m n) {x : Int} (hx : ¬ (0 ≤ x ∧ x < (n : Int))) (mask : Int) : Calls Try.prog 18 #[pv, .int .i64 x, .int .i64 mask] w (HeldP (.slice none 0 0) w) := by
  have HN := Lib.hid (isNode_any h x)
  rw [decide_eq_false hx] at HN
  clear h hx
  go_enter Try.func18, Try.ntmps18
  go_wp2_with fail
  refine HN.out.mono ?_
  rintro e w' ⟨rfl, hb⟩
  go_wp2
  go_ret
  exact ⟨rfl, hb⟩
theorem out_in {w : World} {B b n : Nat} {xs : List Nat} {nbs : Bool → Nat} {Vs : Bool → Nat → Value} {cnt : Bool → Nat → Nat → Nat → Int} (h : GS w B b n xs nbs Vs cnt) (hn : n ≤ 4096) {a : Nat} (ha : a < n) (mask : Int) :
    Calls Try.prog 18 #[.pointer (some ⟨b, 0, none⟩), .int .i64 (a : Int), .int .i64 mask] w (GatP w (outT xs a mask 4)) := by
  have HN := Lib.hid (isNode_any h.v (a : Int))
  rw [decide_eq_true (by omega)] at HN
  have HG := Lib.hid (fun Y (hY : Below w.heap.size w Y) => gather_any h hn hY (OwnArc.nil w.heap.size Y) (by simp) ha mask)
  clear h hn ha
  go_enter Try.func18, Try.ntmps18
  go_wp2_with fail
  refine HN.out.mono ?_
  rintro e w1 ⟨rfl, hb⟩
  have HG1 := Lib.hid (HG.out w1 hb)
  clear hb HN HG
  go_wp2_with fail
  refine HG1.out.mono ?_
  rintro e w2 ⟨v, rfl, ho, hb⟩
  have HR := Lib.hid (And.intro ho hb)
  clear ho hb HG1
  go_wp2
  go_ret
  exact ⟨_, rfl, HR.out.1, HR.out.2⟩
end Go.Proofs.Ytimgdkafennohaa.Gr
