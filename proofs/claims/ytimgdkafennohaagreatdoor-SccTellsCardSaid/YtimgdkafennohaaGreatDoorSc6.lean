/-
  Components: contract of Labels. Not a statement of the seat.
-/
import Derived.Test.YtimgdkafennohaaGreatDoorSc5
import Derived.Test.YtimgdkafennohaaGreatDoorHead20
namespace Go.Proofs.YtimgdkafennohaaGreatDoor.Sc
open Go.ChangeShapes Go.WideShapes Go.ChangeAt Go.RowKit Base F Bits Gr
variable {k : Blk} {n : Nat} {w W : World}
/-- A block of ints, as a slice. -/
theorem own_of {B b : Nat} {f : Nat → Nat} (h : w.heap[b]? = some (.cells (intsF n f) 3)) (hB : B ≤ b) (hn : n ≤ 1000000) : Lst.OwnI B w (.slice (some ⟨b, 0, none⟩) n n) (natI ((List.range n).map f)) := by
  unfold Lst.OwnI
  have hl : (natI ((List.range n).map f)).length = n := by simp [natI]
  rw [hl]
  refine ⟨by simp [natI], .inr ⟨b, n, intsF n f, rfl, hB, h, Nat.le_refl _, by simp only [maxLen]; omega, by simp [intsF], ?_⟩⟩
  unfold intsF natI
  rw [List.map_map, List.map_map]
  simp
  rw [List.take_of_length_le (by simp)]
  rfl
set_option maxRecDepth 100000 in
/-- How a digraph's arcs go on. -/
theorem nx_ok {W0 : World} {B b : Nat} {q : List Arc} {nbs : Bool → Nat} {mask : Int} {cg cm : Nat} (h : GQ W0 B b n q nbs) (hn : n ≤ 4096) (hg : W0.heap[cg]? = some (.cells #[.pointer (some ⟨b, 0, none⟩)] 24)) (hm : W0.heap[cm]? = some (.cells #[.int .i64 mask] 3)) :
    NxOk W0 n 25 #[.pointer (some ⟨cg, 0, none⟩), .pointer (some ⟨cm, 0, none⟩)] (nxA (ofA q mask)) := by
  have hq := h.1
  obtain ⟨e0, e1, e2, e3⟩ := ofA_ends hq mask
  refine ⟨fun args w => rfl, fun W v hv hb => ?_, fun v _ t ht => nxA_lt e1 e0 ht, fun v _ => ?_⟩
  · have HG := Lib.hid (next_q (h.below hb) hn mask (v : Int))
    have hz : sideO (ofA q mask) (v : Int) false = natI (nxA (ofA q mask) v) := by
      unfold natI nxA
      rw [List.map_map]
      conv => lhs; rw [← List.map_id (sideO (ofA q mask) (v : Int) false)]
      refine List.map_congr_left fun z hz => ?_
      obtain ⟨x, hx, _, rfl⟩ := mem_next.1 hz
      have := e0 x hx
      simp
      omega
    rw [hz] at HG
    have c0 := (blk1 hb (heap_lt hg) hg).1
    have c1 := (blk1 hb (heap_lt hm) hm).1
    clear hz hg hm hb h
    show Calls _ _ #[.int .i64 (v : Int), .pointer (some ⟨cg, 0, none⟩), .pointer (some ⟨cm, 0, none⟩)] W _
    go_enter Tryz.func25, Tryz.ntmps25
    go_wp2_with fail
    refine HG.out.mono ?_
    rintro e w1 ⟨lv, rfl, h1, h2⟩
    have H1 := Lib.hid (And.intro h1 h2)
    clear h1 h2
    go_wp2_with fail
    go_ret
    exact ⟨lv, rfl, H1.out.1, H1.out.2⟩
  · have h1 := sideO_len (ofA q mask) (v : Int) false
    have h2 := ofA_len q mask
    obtain ⟨_, Vs, hs⟩ := h
    have h3 := hs.good.2.1
    rw [List.length_map] at h3
    unfold nxA
    rw [List.length_map]
    omega
/-- Where Labels' loop is. -/
def TW (W0 : World) (k : Blk) (n : Nat) (fv : Value) (nx : Nat → List Nat) (j : Nat) (w : World) : Prop :=
  ∃ o s, FW W0 k n fv o s w ∧ Inv nx s ∧ s.opn = [] ∧ ∀ u, u < j → s.num u ≠ 0
theorem TW.start {W0 w : World} {fv : Value} {nx : Nat → List Nat} {o : Option Nat} (h : FS W0.heap.size k n fv w o st0) (hb : Below W0.heap.size W0 w) : TW W0 k n fv nx 0 w := by
  refine ⟨o, st0, ⟨h, hb, ?_⟩, ⟨fun v => Nat.le_refl _, fun v hv => (by cases hv), List.Pairwise.nil, fun v hv => absurd rfl hv, fun v hv => absurd rfl hv⟩, rfl, fun u hu => absurd hu (Nat.not_lt_zero _)⟩
  show 0 + unmet n (fun _ => 0) = n
  rw [unmet_all]
  omega
theorem TW.below {W0 w w' : World} {fv : Value} {nx : Nat → List Nat} {j : Nat} (h : TW W0 k n fv nx j w) (hb : Below w.heap.size w w') : TW W0 k n fv nx j w' := by
  obtain ⟨o, s, ⟨h1, h2, h3⟩, hr⟩ := h
  exact ⟨o, s, ⟨h1.below hb, h2.trans (hb.mono h1.size), h3⟩, hr⟩
theorem TW.next {W0 w w' : World} {fv : Value} {nx : Nat → List Nat} {o : Option Nat} {s : St} {j : Nat} {e : Ending} (h : VisP W0 k n fv nx j o s w e w') (ho : s.opn = []) (hk : ∀ u, u < j → s.num u ≠ 0) : e = .returned (.tuple #[]) ∧ TW W0 k n fv nx (j + 1) w' := by
  obtain ⟨rfl, s', X, hv, ⟨o', hf, _, _⟩, hb, hc⟩ := h
  have hX := hv.none_ ho
  refine ⟨rfl, o', s', ⟨hf, hb, hc⟩, hv.inv, by rw [hv.opn, hX, ho]; rfl, fun u hu => ?_⟩
  by_cases e : u = j
  · rw [e]; exact hv.there
  · have := hk u (by omega)
    rw [(hv.kept u this).1]; exact this
theorem TW.end_ {W0 w : World} {fv : Value} {l : List Arc} (h0 : ∀ x ∈ l, 0 ≤ x.to) (h : TW W0 k n fv (nxA l) n w) : w.heap[k.bL]? = some (.cells (intsF n (labR l)) 3) ∧ Below W0.heap.size W0 w ∧ W0.heap.size ≤ k.bL ∧ w.cell? ⟨k.b, 6, none⟩ = some (.slice (some ⟨k.bL, 0, none⟩) n n) := by
  obtain ⟨o, s, ⟨hf, hb, _⟩, hi, ho, hk⟩ := h
  refine ⟨?_, hb, hf.ge.2.2.2.2.2.2, hf.cells.1.2.2.2.2.2.2⟩
  rw [hf.lab]
  congr 2
  refine intsF_ext fun i hi2 => ?_
  exact labR_eq h0 (hi.lab i (hk i hi2) (by rw [ho]; simp))
/-- The document's labels, as ints. -/
def labI (n : Nat) (l : List Arc) : List Int := natI ((List.range n).map (labR l))
set_option maxRecDepth 100000 in
set_option maxHeartbeats 4000000 in
theorem labels_gen {pv : Option Addr} {l : List Arc} (hn : n ≤ 4096) (mask : Int) (e0 : ∀ x ∈ l, 0 ≤ x.to) (hnodes : ∀ X, Below w.heap.size w X → Calls Tryz.prog 24 #[.pointer pv] X (HeldP (.int .i64 (n : Int)) X))
    (hnx : ∀ W0 (cg cm : Nat), Below w.heap.size w W0 → W0.heap[cg]? = some (.cells #[.pointer pv] 24) → W0.heap[cm]? = some (.cells #[.int .i64 mask] 3) → NxOk W0 n 25 #[.pointer (some ⟨cg, 0, none⟩), .pointer (some ⟨cm, 0, none⟩)] (nxA l)) :
    Calls Tryz.prog 12 #[.pointer pv, .int .i64 mask] w (NumN w (labI n l)) := by
  obtain ⟨w1, hw1⟩ : ∃ w1, w1 = w.alloc (.cells #[.pointer pv] 24) := ⟨_, rfl⟩
  obtain ⟨cg, hcg⟩ : ∃ cg, cg = w.heap.size := ⟨_, rfl⟩
  obtain ⟨w2, hw2⟩ : ∃ w2, w2 = w1.alloc (.cells #[.int .i64 mask] 3) := ⟨_, rfl⟩
  obtain ⟨cm, hcm⟩ : ∃ cm, cm = w.heap.size + 1 := ⟨_, rfl⟩
  have hsz1 : w1.heap.size = w.heap.size + 1 := by rw [hw1]; simp
  have hb1 : Below w.heap.size w w1 := by rw [hw1]; exact (Below.refl _ _).alloc (Nat.le_refl _) _
  have hb2 : Below w1.heap.size w1 w2 := by rw [hw2]; exact (Below.refl _ _).alloc (Nat.le_refl _) _
  have hg1 : w1.heap[cg]? = some (.cells #[.pointer pv] 24) := by rw [hw1, hcg]; exact heap_alloc_at _ _ _ rfl
  have hg2 : w2.heap[cg]? = some (.cells #[.pointer pv] 24) := (hb2.block _ (heap_lt hg1)).trans hg1
  have hm2 : w2.heap[cm]? = some (.cells #[.int .i64 mask] 3) := by rw [hw2, hcm, ← hsz1]; exact heap_alloc_at _ _ _ rfl
  have hb : Below w.heap.size w w2 := hbt hb1 hb2
  have HNODES : Hid (∀ X, Below w2.heap.size w2 X → Calls Tryz.prog 24 #[.pointer pv] X (HeldP (.int .i64 (n : Int)) X)) := Lib.hid fun X hX => hnodes X (hbt hb hX)
  have HNX : Hid (∀ W0, Below w2.heap.size w2 W0 → NxOk W0 n 25 #[.pointer (some ⟨cg, 0, none⟩), .pointer (some ⟨cm, 0, none⟩)] (nxA l)) := Lib.hid fun W0 hX => hnx W0 cg cm (hbt hb hX) ((hX.block _ (heap_lt hg2)).trans hg2) ((hX.block _ (heap_lt hm2)).trans hm2)
  have HB := Lib.hid hb
  have HNF := Lib.hid (fun wx => newFinder_any n hn 25 #[.pointer (some ⟨cg, 0, none⟩), .pointer (some ⟨cm, 0, none⟩)] wx)
  have HRES : Hid (∀ W0 X (k : Blk), Below w2.heap.size w2 W0 → TW W0 k n (fnV 25 #[.pointer (some ⟨cg, 0, none⟩), .pointer (some ⟨cm, 0, none⟩)]) (nxA l) n X → X.cell? ⟨k.b, 6, none⟩ = some (.slice (some ⟨k.bL, 0, none⟩) n n) ∧ NumN w (labI n l) (.returned (.slice (some ⟨k.bL, 0, none⟩) n n)) X) := Lib.hid fun W0 X k hb0 hT => by
    obtain ⟨t1, t2, t3, t4⟩ := hT.end_ e0
    have hs := Nat.le_trans hb.size hb0.size
    exact ⟨t4, _, rfl, own_of t1 (Nat.le_trans hs t3) (by omega), hbt (hbt hb hb0) t2⟩
  have hni : (n : Int) ≤ 4096 := by omega
  have hgc := (blk1 (Below.refl w2.heap.size w2) (heap_lt hg2) hg2).1
  have HG2 := Lib.hid hg2
  generalize NumN w (labI n l) = Post at HRES ⊢
  clear hb1 hb2 hg1 hg2 hm2 hb e0 hnx hnodes
  go_enter Tryz.func12, Tryz.ntmps12
  go_wp2_with fail
  rw [← hcm, ← hcg, ← hw1, ← hw2]
  clear hcg hw1 hcm hw2 hsz1
  refine (HNODES.out _ (Below.refl _ _)).mono ?_
  rintro e w3 ⟨rfl, hb3⟩
  have HB3 := Lib.hid hb3
  clear hgc hb3
  go_wp2_with fail
  refine (HNF.out _).mono ?_
  rintro e w4 ⟨k, rfl, hf4, hb4⟩
  have HNW := Lib.hid (HNX.out w3 HB3.out)
  have HB4 := Lib.hid (hbt HB3.out hb4)
  have H0 := Lib.hid (TW.start (nx := nxA l) hf4 hb4)
  have hgc : w4.cell? ⟨cg, 0, none⟩ = some (.pointer pv) := (blk1 HB4.out (heap_lt HG2.out) HG2.out).1
  clear hf4 hb4 HNF HNX HG2
  go_wp2_with fail
  refine (HNODES.out _ HB4.out).mono ?_
  rintro e w5 ⟨rfl, hb5⟩
  have H1 := Lib.hid (H0.out.below hb5)
  clear hb5 H0 hgc
  go_wp2_with fail
  go_loopw [13] (fun s13 wr => ∃ j : Nat, s13 = .int .i64 (j : Int) ∧ j ≤ n ∧ Hid (TW w3 k n (fnV 25 #[.pointer (some ⟨cg, 0, none⟩), .pointer (some ⟨cm, 0, none⟩)]) (nxA l) j wr)) (fun s13 _ => n - (intOf s13).toNat)
  case atStart => exact ⟨0, rfl, Nat.zero_le _, H1⟩
  case round =>
    clear H1
    obtain ⟨j, rfl, hj, HT⟩ := hrel
    by_cases hlt : j < n
    · obtain ⟨o, s, hfw, hi, ho, hk⟩ := HT.out
      have HM := Lib.hid (isMet_any hfw.1 hlt)
      by_cases h0 : s.num j = 0
      · rw [h0, show decide ((0 : Nat) ≠ 0) = false from rfl] at HM
        have HV := Lib.hid (visit_any HNW.out _ wr o s j hfw hi hlt h0 (Nat.le_refl _))
        have HK := Lib.hid (And.intro ho hk)
        clear hfw hi ho hk HT h0
        go_wp2_with fail
        refine HM.out.mono ?_
        rintro e w6 ⟨rfl, rfl⟩
        clear HM
        go_wp2_with fail
        refine HV.out.mono ?_
        intro e w6 hv
        obtain ⟨rfl, ht⟩ := TW.next hv HK.out.1 HK.out.2
        have HT2 := Lib.hid ht
        clear ht hv HV
        go_wp2_with fail
        go_roundw
        case rel => exact ⟨j + 1, by go_num, hlt, HT2⟩
        case measure => simp [intOf]; omega
      · rw [decide_eq_true h0] at HM
        have HT2 : Hid (TW w3 k n (fnV 25 #[.pointer (some ⟨cg, 0, none⟩), .pointer (some ⟨cm, 0, none⟩)]) (nxA l) (j + 1) wr) := Lib.hid ⟨o, s, hfw, hi, ho, fun u hu => by
          by_cases e : u = j
          · rw [e]; exact h0
          · exact hk u (by omega)⟩
        clear hfw hi ho hk HT h0
        go_wp2_with fail
        refine HM.out.mono ?_
        rintro e w6 ⟨rfl, rfl⟩
        clear HM
        go_wp2_with fail
        go_roundw
        case rel => exact ⟨j + 1, by go_num, hlt, HT2⟩
        case measure => simp [intOf]; omega
    · have e : j = n := by omega
      subst e
      obtain ⟨c6, hr⟩ := HRES.out w3 wr k HB3.out HT.out
      have HR := Lib.hid hr
      clear hr HT HNW
      go_wp2
      exact HR.out
theorem labels_any {B b : Nat} {q : List Arc} {nbs : Bool → Nat} (h : GQ w B b n q nbs) (hn : n ≤ 4096) (mask : Int) : Calls Tryz.prog 12 #[.pointer (some ⟨b, 0, none⟩), .int .i64 mask] w (NumN w (labI n (ofA q mask))) :=
  labels_gen hn mask (ofA_ends h.1 mask).1 (fun _ hX => nodes_q (h.below hX)) (fun _ _ _ hX hg hm => nx_ok (h.below hX) hn hg hm)
set_option maxRecDepth 100000 in
theorem nodes_nil (X : World) : Calls Tryz.prog 24 #[.pointer none] X (HeldP (.int .i64 0) X) := nodes_any (m := 0) (n := 0) (.inl ⟨rfl, rfl, rfl⟩)
set_option maxRecDepth 100000 in
theorem labels_nil (mask : Int) (w : World) : Calls Tryz.prog 12 #[.pointer none, .int .i64 mask] w (NumN w []) :=
  labels_gen (n := 0) (l := []) (by omega) mask (fun x hx => (by cases hx)) (fun X _ => nodes_nil X) (fun W0 cg cm _ _ _ => ⟨fun args w => rfl, fun W v hv => absurd hv (Nat.not_lt_zero _), fun v hv => absurd hv (Nat.not_lt_zero _), fun v hv => absurd hv (Nat.not_lt_zero _)⟩)
end Go.Proofs.YtimgdkafennohaaGreatDoor.Sc
