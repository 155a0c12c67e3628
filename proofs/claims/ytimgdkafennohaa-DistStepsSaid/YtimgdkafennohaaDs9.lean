/-
  Shortest walks: contract of Way. Not a statement of the seat.
-/
import Derived.Test.YtimgdkafennohaaDs8
import Derived.Test.YtimgdkafennohaaHead14
import Derived.Deep.RegionHeld3
import Derived.Deep.DeepCutAuto
namespace Go.Proofs.Ytimgdkafennohaa.Ds
open Go.ChangeShapes Go.WideShapes Go.ChangeAt Go.RowKit Base F Gr
theorem ansL_at {n st u : Nat} {d : Nat → Option Nat} (h : u < n) : (ansL n st d).getD u 0 = stepI (d (2 * u + st)) := by
  unfold ansL
  simp [List.getD_eq_getElem?_getD, h]
theorem ansL_len (n st : Nat) (d : Nat → Option Nat) : (ansL n st d).length = n := by simp [ansL]
/-- What a walk that is told is: from one node to the other, by arcs that there are, as many as are left. -/
def Walk (q : List Arc) (mask : Int) (d : Nat → Option Nat) (from_ to_ : Int) (L : List Arc) (is : Bool) : Prop := (∃ u k : Nat, from_ = (u : Int) ∧ d (2 * u) = some k ∧ is = true ∧ L.length = k ∧ ChainA from_ L to_ ∧ ∀ a ∈ L, a ∈ ofA q mask) ∨ ((∀ u : Nat, from_ = (u : Int) → d (2 * u) = none) ∧ is = false ∧ L = [])
def WayP (w : World) (n : Nat) (q : List Arc) (mask least from_ to_ : Int) (e : Ending) (w' : World) : Prop := ∃ d, IsD (okP n least) (pvP (prQ q) mask 0) (startP n to_) d ∧ ∃ v L is, e = .returned (.tuple #[v, .bool is]) ∧ OwnArc w.heap.size w' v L ∧ Walk q mask d from_ to_ L is ∧ Below w.heap.size w w'
/-- Where its loop is. -/
def WI (w2 : World) (q : List Arc) (mask : Int) (d : Nat → Option Nat) (from_ : Int) (K u : Nat) (v : Value) (nl : Nat) (wr : World) : Prop := ∃ L k, L.length = nl ∧ d (2 * u) = some k ∧ nl + k = K ∧ ChainA from_ L (u : Int) ∧ (∀ a ∈ L, a ∈ ofA q mask) ∧ OwnArc w2.heap.size wr v L ∧ Below w2.heap.size w2 wr
theorem is_chain {n : Nat} {least : Int} {f : Nat → List Nat} {a : Nat} {d : Nat → Option Nat} (h : IsD (okP n least) f a d) : ∀ (m x : Nat), d x = some m → ∃ l : List Nat, l.length = m + 1 ∧ l.Nodup ∧ ∀ y ∈ l, y < 2 * n ∧ ∃ j, j ≤ m ∧ d y = some j
  | 0, x, hx => ⟨[x], rfl, by simp, fun y hy => by rw [List.mem_singleton] at hy; rw [hy]; exact ⟨okP_lt (h.okd x 0 hx), 0, Nat.le_refl _, hx⟩⟩
  | m + 1, x, hx => by
    obtain ⟨y, hy, _⟩ := h.wit x m hx
    obtain ⟨l, h1, h2, h3⟩ := is_chain h m y hy
    refine ⟨x :: l, by rw [List.length_cons, h1], List.nodup_cons.2 ⟨fun hm => ?_, h2⟩, fun z hz => ?_⟩
    · obtain ⟨_, j, hj, hd⟩ := h3 x hm
      rw [hx] at hd
      injection hd with hd
      omega
    · rcases List.mem_cons.1 hz with rfl | hz
      · exact ⟨okP_lt (h.okd z _ hx), m + 1, Nat.le_refl _, hx⟩
      · obtain ⟨g1, j, hj, hd⟩ := h3 z hz
        exact ⟨g1, j, by omega, hd⟩
theorem is_bound {n : Nat} {least : Int} {f : Nat → List Nat} {a : Nat} {d : Nat → Option Nat} (h : IsD (okP n least) f a d) {m x : Nat} (hx : d x = some m) : m < 2 * n := by
  obtain ⟨l, h1, h2, h3⟩ := is_chain h m x hx
  have := nodup_len l (2 * n) h2 (fun y hy => (h3 y hy).1)
  omega
theorem own_last {B : Nat} {w : World} {p : Option Addr} {c nl : Nat} {L : List Arc} {a : Arc} (h : OwnArc B w (.slice p (nl + 1) c) (L ++ [a])) (hl : L.length = nl) (hb : nl ≤ 100000) : ∃ g o, p = some ⟨g, o, none⟩ ∧ w.cell? ⟨g, o + nl * 4 + 1, none⟩ = some (.int .i64 a.to) := by
  have h1 := h.list (by rw [List.length_append, List.length_singleton]; omega)
  obtain ⟨p', c', hv, _, hc⟩ := h1.open_
  injection hv with e1 e2 e3
  obtain ⟨g, o, h2, _, _, _, h3, _⟩ := hc nl (by rw [List.length_append, List.length_singleton]; omega)
  refine ⟨g, o, by rw [e1]; exact h2, ?_⟩
  rw [h3]
  have e : (L ++ [a]).getD nl Arc.zero = a := by
    rw [List.getD_eq_getElem?_getD, List.getElem?_append_right (by omega)]
    simp [hl]
  rw [e]
def lenV (v : Value) : Nat := match v with | .slice _ n _ => n | _ => 0
theorem stepI_some {o : Option Nat} {k : Nat} (h : stepI o = (k : Int)) : o = some k := by
  cases o with
  | none => unfold stepI at h; simp only at h; omega
  | some m => unfold stepI at h; simp only at h; congr 1; omega
set_option maxRecDepth 100000 in
set_option maxHeartbeats 16000000 in
theorem way_any {w : World} {B b n : Nat} {q : List Arc} {nbs : Bool → Nat} (h : GQ w B b n q nbs) (hn : n ≤ 4096) (hl : q.length ≤ 400) (mask : Int) (hm : -9223372036854775808 ≤ mask ∧ mask ≤ 9223372036854775807) (from_ to_ least : Int) : Calls Try.prog 8 #[.pointer (some ⟨b, 0, none⟩), .int .i64 mask, .int .i64 from_, .int .i64 to_, .int .i64 least] w (WayP w n q mask least from_ to_) := by
  have HTO := Lib.hid (to_any (w := w) hn (fun W hW => nodes_q (h.below hW)) (pvOk_of h hn hl) mask to_ least)
  have HOUT : Hid (∀ X, Below w.heap.size w X → ∀ u : Nat, Calls Try.prog 18 #[.pointer (some ⟨b, 0, none⟩), .int .i64 (u : Int), .int .i64 mask] X (GatP X ((ofA q mask).filter fun x => x.fr == (u : Int)))) := Lib.hid fun X hX u => out_q (h.below hX) hn mask u
  have HRT := Lib.hid (ofA_right h.1 mask)
  have HLN : Hid ((ofA q mask).length ≤ 400) := Lib.hid (by have := ofA_len q mask; omega)
  have HN4 := Lib.hid hn
  have HPE := Lib.hid (pvP_zero q mask hm)
  have hni : (n : Int) ≤ 4096 := by omega
  clear h hn hl hm
  go_enter Try.func8, Try.ntmps8
  go_wp2_with fail
  refine HTO.out.mono ?_
  rintro e w2 ⟨lv, d, rfl, hd, ho, hb2⟩
  have HD := Lib.hid hd
  have HB2 := Lib.hid hb2
  have hi2 := ho.ints (by rw [ansL_len]; have := HN4.out; omega)
  obtain ⟨pz, cz, hlv, _, hcz⟩ := hi2.open_
  rw [ansL_len] at hlv hcz
  subst hlv
  have HZI : Hid (∀ X, Below w2.heap.size w2 X → Lst.Ints 0 X (.slice pz n cz) (ansL n 0 d)) := Lib.hid fun X hX => hi2.below hX
  have HZ : Hid (∀ u, u < n → ∃ g o, pz = some ⟨g, o, none⟩ ∧ ∀ X, Below w2.heap.size w2 X → g < X.heap.size ∧ X.cell? ⟨g, o + u, none⟩ = some (.int .i64 (stepI (d (2 * u))))) := Lib.hid fun u hu => by
    obtain ⟨g, o, h1, _, h2, h3⟩ := hcz u hu
    rw [ansL_at hu] at h3
    exact ⟨g, o, h1, fun X hX => ⟨Nat.lt_of_lt_of_le h2 hX.size, (hX.cell (p := ⟨g, _, none⟩) h2).trans h3⟩⟩
  have HIN : Hid (IsN n least (prN (ofA q mask)) to_ (fun v => d (2 * v))) := Lib.hid (by
    rw [HPE.out] at hd
    exact IsN.of okP_iff hd)
  clear hd ho hi2 hcz hb2 HTO
  have HNO : Hid (∀ u : Nat, d (2 * u) ≠ none → u < n) := Lib.hid fun u hu => by
    cases e : d (2 * u) with
    | none => exact absurd e hu
    | some k => exact (HIN.out.okd u k e).1
  by_cases hA : from_ < 0
  · have HRES : Hid (WayP w n q mask least from_ to_ (.returned (.tuple #[.slice none 0 0, .bool false])) w2) := Lib.hid ⟨d, HD.out, _, [], false, rfl, OwnArc.nil _ _, .inr ⟨fun u hu => by omega, rfl, rfl⟩, HB2.out⟩
    clear HZ HZI HIN HOUT
    go_wp2
    refine bodyPost_ret (results_tmp2 rfl _ _ _) rfl ?_
    exact HRES.out
  obtain ⟨u0, rfl⟩ := Int.eq_ofNat_of_zero_le (Int.not_lt.1 hA)
  by_cases hB : n ≤ u0
  · have HRES : Hid (WayP w n q mask least (u0 : Int) to_ (.returned (.tuple #[.slice none 0 0, .bool false])) w2) := Lib.hid ⟨d, HD.out, _, [], false, rfl, OwnArc.nil _ _, .inr ⟨fun u hu => by
      apply Classical.byContradiction
      intro hh
      have := HNO.out u hh
      omega, rfl, rfl⟩, HB2.out⟩
    have hBi : (n : Int) ≤ (u0 : Int) := by omega
    clear HZ HZI HIN HOUT
    go_wp2
    refine bodyPost_ret (results_tmp2 rfl _ _ _) rfl ?_
    exact HRES.out
  have hlt0 : u0 < n := by omega
  have hlti : (u0 : Int) < (n : Int) := by omega
  obtain ⟨gz, oz, rfl, hcell⟩ := HZ.out u0 hlt0
  obtain ⟨hg0, hc0⟩ := hcell w2 (Below.refl _ _)
  cases hdu : d (2 * u0) with
  | none =>
    rw [hdu] at hc0
    have HRES : Hid (WayP w n q mask least (u0 : Int) to_ (.returned (.tuple #[.slice none 0 0, .bool false])) w2) := Lib.hid ⟨d, HD.out, _, [], false, rfl, OwnArc.nil _ _, .inr ⟨fun u hu => by
      have e : u = u0 := by omega
      rw [e]; exact hdu, rfl, rfl⟩, HB2.out⟩
    unfold stepI at hc0
    simp only at hc0
    clear HZ HZI HIN HOUT hdu hcell
    go_wp2
    refine bodyPost_ret (results_tmp2 rfl _ _ _) rfl ?_
    exact HRES.out
  | some K =>
    rw [hdu] at hc0
    have HW0 : Hid (WI w2 q mask d (u0 : Int) K u0 (.slice none 0 0) 0 w2) := Lib.hid ⟨[], K, rfl, hdu, by omega, rfl, (fun a ha => by cases ha), OwnArc.nil _ _, Below.refl _ _⟩
    have HDU := Lib.hid hdu
    unfold stepI at hc0
    simp only at hc0
    have hK0 : (0 : Int) ≤ (K : Int) := by omega
    have hKb : K ≤ 8192 := by have := is_bound HD.out HDU.out; have := HN4.out; omega
    clear hdu hcell
    go_wp2_with fail
    go_loopw [13, 14] (fun s13 s14 wr => ∃ (u nl c : Nat) (p : Option Addr), s14 = .int .i64 (u : Int) ∧ s13 = .slice p nl c ∧ nl ≤ K ∧ Hid (WI w2 q mask d (u0 : Int) K u (.slice p nl c) nl wr)) (fun s13 _ _ => K - lenV s13)
    case atStart => exact ⟨u0, 0, 0, none, rfl, rfl, Nat.zero_le _, HW0⟩
    case round =>
      obtain ⟨u, nl, c, p, rfl, rfl, hnl, HI⟩ := hrel
      clear hc0 hg0 hK0 HW0
      by_cases hut : (u : Int) = to_
      · have HRES : Hid (WayP w n q mask least (u0 : Int) to_ (.returned (.tuple #[.slice p nl c, .bool true])) wr) := Lib.hid (by
          obtain ⟨L, k, h1, h2, h3, h4, h5, h6, h7⟩ := HI.out
          have hk := (HIN.out.zero u k h2).2 hut
          refine ⟨d, HD.out, _, L, true, rfl, ownA_less h6 HB2.out.size, .inl ⟨u0, K, rfl, HDU.out, rfl, by omega, by rw [← hut]; exact h4, h5⟩, HB2.out.trans (h7.mono HB2.out.size)⟩)
        clear HI HZ HZI HIN HOUT
        go_wp2
        refine bodyPost_ret (results_tmp2 rfl _ _ _) rfl ?_
        exact HRES.out
      · obtain ⟨L, k0, h1, h2, h3, h4, h5, h6, h7⟩ := HI.out
        have hk : k0 ≠ 0 := fun e => hut ((HIN.out.zero u k0 h2).1 e)
        obtain ⟨k, rfl⟩ := Nat.exists_eq_succ_of_ne_zero hk
        have hun := (HIN.out.okd u _ h2).1
        have huni : (u : Int) < (n : Int) := by omega
        obtain ⟨x, hx1, hx2, hx3, hx4⟩ := HIN.out.arc HRT.out h2
        obtain ⟨gz', oz', hpz, hcell⟩ := HZ.out u hun
        injection hpz with hpz
        simp only [Addr.mk.injEq] at hpz
        obtain ⟨rfl, rfl, _⟩ := hpz
        have HCELL : Hid (∀ X, Below w2.heap.size w2 X → X.cell? ⟨gz, oz + u, none⟩ = some (.int .i64 ((k : Int) + 1))) := Lib.hid fun X hX => by
          have := (hcell X hX).2
          rw [h2] at this
          exact this
        have HEX : Hid (∃ a ∈ (ofA q mask).filter (fun x => x.fr == (u : Int)), (ansL n 0 d).getD a.to.toNat 0 = (k : Int)) := Lib.hid ⟨x, List.mem_filter.2 ⟨hx1, by rw [hx2]; exact beq_self_eq_true _⟩, by
          have := (HIN.out.okd _ _ hx3).1
          rw [ansL_at this]
          show stepI (d (2 * x.to.toNat)) = _
          rw [hx3]
          rfl⟩
        have HL := Lib.hid h1
        have HKK := Lib.hid h3
        have HCH := Lib.hid h4
        have HIQ := Lib.hid h5
        have HOW := Lib.hid h6
        have HBW := Lib.hid h7
        have hcu := HCELL.out wr h7
        have hnk : nl + 1 ≤ K := by omega
        have HWK : Hid (IntKind.i64.wrap (k : Int) = (k : Int)) := Lib.hid (by rw [IntKind.wrap_i64]; omega)
        have HLEN : Hid (nl ≤ 8192) := Lib.hid (by omega)
        clear hk hcell hx1 hx2 hx3 hx4 h1 h2 h3 h4 h5 h6 h7 HI hnl
        go_upto_region 8 with fail
        have HB0 : Hid (Below w2.heap.size w2 wr.drew) := Lib.hid (below_drewN HBW.out 1)
        have HO0 : Hid (OwnArc w2.heap.size wr.drew (.slice p nl c) L) := Lib.hid (HOW.out.below (below_drewN (Below.refl _ _) 1))
        obtain ⟨U0, hU0⟩ : ∃ X, X = wr.drew := ⟨_, rfl⟩
        refine wp_region_held_drew (S := fun X => X.cell? ⟨gz, oz + u, none⟩ = some (.int .i64 ((k : Int) + 1))) (by kernel_rfl) hcu (fun hHeld0 => ?_)
        rw [← hU0] at HB0 HO0 hHeld0 ⊢
        clear hU0 hcu
        refine wpAnyH_take (i := 0) (v := ?_) rfl (by kernel_rfl) (by kernel_rfl) (by kernel_rfl) (fun _ _ _ h => h) (Or.inl ⟨by rfl, ?yw0⟩) (by assumption) ?qw0
        case yw0 => (intro wz hSw; (try dsimp only at hSw); go_simp <;> with_reducible rfl)
        try simp only [Act.put, List.getElem_toArray, List.getElem_cons_zero, List.setIfInBounds_toArray, List.set_cons_zero, List.set_cons_succ]
        refine wpAnyH_take (i := 1) (v := ?_) rfl (by kernel_rfl) (by kernel_rfl) (by kernel_rfl) (fun _ _ _ h => h) (Or.inl ⟨by rfl, ?yw1⟩) (by assumption) ?qw1
        case yw1 => (intro wz hSw; (try dsimp only at hSw); go_simp <;> with_reducible rfl)
        try simp only [Act.put, List.getElem_toArray, List.getElem_cons_zero, List.getElem_cons_succ, List.setIfInBounds_toArray, List.set_cons_zero, List.set_cons_succ]
        refine wpAnyH_take (i := 2) (v := ?_) rfl (by kernel_rfl) (by kernel_rfl) (by kernel_rfl) (fun _ _ _ h => h) (Or.inl ⟨by rfl, ?yw2⟩) (by assumption) ?qw2
        case yw2 => (intro wz hSw; (try dsimp only at hSw); go_simp <;> with_reducible rfl)
        try simp only [Act.put, List.getElem_toArray, List.getElem_cons_zero, List.getElem_cons_succ, List.setIfInBounds_toArray, List.set_cons_zero, List.set_cons_succ]
        refine wpAnyH_take (i := 3) (v := ?_) rfl (by kernel_rfl) (by kernel_rfl) (by kernel_rfl) (fun _ _ _ h => h) (Or.inl ⟨by rfl, ?yw3⟩) (by assumption) ?qw3
        case yw3 => (intro wz hSw; (try dsimp only at hSw); go_simp <;> with_reducible rfl)
        try simp only [Act.put, List.getElem_toArray, List.getElem_cons_zero, List.getElem_cons_succ, List.setIfInBounds_toArray, List.set_cons_zero, List.set_cons_succ]
        refine wpAnyH_take (i := 5) (v := ?_) rfl (by kernel_rfl) (by kernel_rfl) (by kernel_rfl) (fun _ _ _ h => h) (Or.inl ⟨by rfl, ?yw5⟩) (by assumption) ?qw5
        case yw5 => (intro wz hSw; (try dsimp only at hSw); go_simp <;> with_reducible rfl)
        try simp only [Act.put, List.getElem_toArray, List.getElem_cons_zero, List.getElem_cons_succ, List.setIfInBounds_toArray, List.set_cons_zero, List.set_cons_succ]
        refine wpAnyH_take (i := 6) (v := ?_) rfl (by kernel_rfl) (by kernel_rfl) (by kernel_rfl) (fun _ _ _ h => h) (Or.inl ⟨by rfl, ?yw6⟩) (by assumption) ?qw6
        case yw6 => (intro wz hSw; (try dsimp only at hSw); go_simp <;> with_reducible rfl)
        try simp only [Act.put, List.getElem_toArray, List.getElem_cons_zero, List.getElem_cons_succ, List.setIfInBounds_toArray, List.set_cons_zero, List.set_cons_succ]
        refine wpAnyH_take (i := 7) (v := ?_) rfl (by kernel_rfl) (by kernel_rfl) (by kernel_rfl) (fun _ _ _ h => h) (Or.inl ⟨by rfl, ?yw7⟩) (by assumption) ?qw7
        case yw7 => (intro wz hSw; (try dsimp only at hSw); go_simp <;> with_reducible rfl)
        try simp only [Act.put, List.getElem_toArray, List.getElem_cons_zero, List.getElem_cons_succ, List.setIfInBounds_toArray, List.set_cons_zero, List.set_cons_succ]
        refine wpAnyH_take (i := 8) (v := ?_) rfl (by kernel_rfl) (by kernel_rfl) (by kernel_rfl) (fun _ _ _ h => h) (Or.inl ⟨by rfl, ?yw8⟩) (by assumption) ?qw8
        case yw8 => (intro wz hSw; (try dsimp only at hSw); go_simp <;> with_reducible rfl)
        try simp only [Act.put, List.getElem_toArray, List.getElem_cons_zero, List.getElem_cons_succ, List.setIfInBounds_toArray, List.set_cons_zero, List.set_cons_succ]
        refine wpAnyH_take (i := 9) (v := ?_) rfl (by kernel_rfl) (by kernel_rfl) (by kernel_rfl) (fun _ _ _ h => h) (Or.inl ⟨by rfl, ?yw9⟩) (by assumption) ?qw9
        case yw9 => (intro wz hSw; (try dsimp only at hSw); go_simp <;> with_reducible rfl)
        try simp only [Act.put, List.getElem_toArray, List.getElem_cons_zero, List.getElem_cons_succ, List.setIfInBounds_toArray, List.set_cons_zero, List.set_cons_succ]
        refine wpAnyH_take (i := 10) (v := ?_) rfl (by kernel_rfl) (by kernel_rfl) (by kernel_rfl) (fun _ _ _ h => h) (Or.inl ⟨by rfl, ?yw10⟩) (by assumption) ?qw10
        case yw10 => (intro wz hSw; (try dsimp only at hSw); go_simp <;> with_reducible rfl)
        try simp only [Act.put, List.getElem_toArray, List.getElem_cons_zero, List.getElem_cons_succ, List.setIfInBounds_toArray, List.set_cons_zero, List.set_cons_succ]
        refine wpAnyH_ready (rs := [4]) (by kernel_rfl) (by simp) ?_
        refine AllReadyH.cons rfl (fun K hK => ?_) AllReadyH.nil
        go_simp
        refine (HOUT.out U0 (HB2.out.trans (HB0.out.mono HB2.out.size)) u).mono ?_
        rintro e w4 ⟨ov, rfl, ho4, hb4⟩
        have HB4 := Lib.hid (HB0.out.trans (hb4.mono HB0.out.size))
        have HO4 := Lib.hid (HO0.out.below hb4)
        have HF4 : Hid (((ofA q mask).filter fun x => x.fr == (u : Int)).length ≤ 400) := Lib.hid (Nat.le_trans (List.length_filter_le _ _) HLN.out)
        have HA4 := Lib.hid ((ho4.list (by have := HF4.out; omega)).mono (Nat.zero_le _))
        clear ho4 hb4
        refine hK.out _ _ (HCELL.out _ HB4.out) (fun hHeldw4 => ?_)
        clear hK K
        try simp only [Act.put, List.getElem_toArray, List.getElem_cons_zero, List.getElem_cons_succ, List.setIfInBounds_toArray, List.set_cons_zero, List.set_cons_succ]
        refine wpAnyH_ready (rs := [11]) (by kernel_rfl) (by simp) ?_
        refine AllReadyH.cons rfl (fun K hK => ?_) AllReadyH.nil
        go_simp
        rw [HWK.out]
        refine (nearer_any HA4.out HF4.out (HZI.out _ HB4.out) (by rw [ansL_len]; exact HN4.out) (fun a ha => by have := HRT.out a (List.mem_filter.1 ha).1; unfold rightO at this; rw [ansL_len]; omega) HEX.out).mono ?_
        rintro e w5 ⟨a, ha1, ha2, rfl, hb5⟩
        have HB5 := Lib.hid (HB4.out.trans (hb5.mono HB4.out.size))
        have HO5 := Lib.hid (HO4.out.below hb5)
        have HAI := Lib.hid ha1
        have HAK := Lib.hid ha2
        clear ha1 ha2 hb5
        obtain ⟨x0, x1, x2, x3⟩ := a
        unfold vA
        simp only
        refine hK.out _ _ (HCELL.out _ HB5.out) (fun hHeldw11 => ?_)
        clear hK K
        try simp only [Act.put, List.getElem_toArray, List.getElem_cons_zero, List.getElem_cons_succ, List.setIfInBounds_toArray, List.set_cons_zero, List.set_cons_succ]
        refine wpAnyH_ready (rs := [12]) (by kernel_rfl) (by simp) ?_
        refine AllReadyH.cons rfl (fun K hK => ?_) AllReadyH.nil
        go_simp
        obtain ⟨p6, hp6⟩ : ∃ p : Option Addr, p = some ⟨w5.heap.size, 0, none⟩ := ⟨_, rfl⟩
        obtain ⟨w6, hw6⟩ : ∃ X, X = w5.alloc (.cells #[.int .i64 x0, .int .i64 x1, .int .i64 x2, .int .i64 x3] 32) := ⟨_, rfl⟩
        have HY6 : Hid (Arcs 0 w6 (.slice p6 1 1) [⟨x0, x1, x2, x3⟩]) := Lib.hid (by rw [hp6, hw6]; exact arc_lit ⟨x0, x1, x2, x3⟩ w5)
        have hb6 : Below w5.heap.size w5 w6 := by rw [hw6]; exact (Below.refl _ _).alloc (Nat.le_refl _) _
        have HB6 := Lib.hid (HB5.out.trans (hb6.mono HB5.out.size))
        have HO6 := Lib.hid (HO5.out.below hb6)
        rw [← hp6, ← hw6]
        clear hp6 hw6 hb6
        refine hK.out _ _ (HCELL.out _ HB6.out) (fun hHeldw12 => ?_)
        clear hK K
        try simp only [Act.put, List.getElem_toArray, List.getElem_cons_zero, List.getElem_cons_succ, List.setIfInBounds_toArray, List.set_cons_zero, List.set_cons_succ]
        refine wpAnyH_ready (rs := [13]) (by kernel_rfl) (by simp) ?_
        refine AllReadyH.cons rfl (fun K hK => ?_) AllReadyH.nil
        refine step_append_arcs rfl (.tmp 46) (.tmp 58) rfl (B := w2.heap.size) HB6.out.size HO6.out rfl HY6.out rfl (by rw [HL.out, List.length_singleton]; have := HLEN.out; omega) ?_
        intro v7 w7 ho7 hg7 _
        have HB7 : Hid (Below w2.heap.size w2 w7) := Lib.hid (Below.grown HB6.out hg7 HB6.out.size (fun z hz => (HO6.out.base z hz).1))
        have HO7 := Lib.hid ho7
        clear ho7 hg7
        refine hK.out _ _ (HCELL.out _ HB7.out) (fun hHeldw13 => ?_)
        clear hK K
        try simp only [Act.put, List.getElem_toArray, List.getElem_cons_zero, List.getElem_cons_succ, List.setIfInBounds_toArray, List.set_cons_zero, List.set_cons_succ]
        refine wpAnyH_take (i := 14) (v := ?_) rfl (by kernel_rfl) (by kernel_rfl) (by kernel_rfl) (fun _ _ _ h => h) (Or.inl ⟨by rfl, ?yw14⟩) (by assumption) ?qw14
        case yw14 => (intro wz hSw; (try dsimp only at hSw); go_simp <;> with_reducible rfl)
        try simp only [Act.put, List.getElem_toArray, List.getElem_cons_zero, List.getElem_cons_succ, List.setIfInBounds_toArray, List.set_cons_zero, List.set_cons_succ]
        refine wpAnyH_done (by kernel_rfl) ?_ _
        obtain ⟨p8, c8, rfl⟩ := ownA_snoc HO7.out HL.out
        obtain ⟨hin, hfr⟩ := List.mem_filter.1 HAI.out
        have hri := HRT.out _ hin
        unfold rightO at hri
        simp only at hri
        obtain ⟨u', rfl⟩ := Int.eq_ofNat_of_zero_le hri.2.1.1
        have hu' : u' < n := by omega
        have hfr2 : x0 = (u : Int) := eq_of_beq hfr
        have hak := HAK.out
        rw [show (Arc.mk x0 (u' : Int) x2 x3).to.toNat = u' from by simp, ansL_at hu'] at hak
        have HN8 : Hid (WI w2 q mask d (u0 : Int) K u' (.slice p8 (nl + 1) c8) (nl + 1) w7) := Lib.hid ⟨L ++ [⟨x0, (u' : Int), x2, x3⟩], k, by rw [List.length_append, List.length_singleton, HL.out], stepI_some hak, by have := HKK.out; omega, HCH.out.snoc hfr2, fun a ha => by
          rcases List.mem_append.1 ha with ha | ha
          · exact HIQ.out a ha
          · rw [List.mem_singleton] at ha
            rw [ha]
            exact hin, HO7.out, HB7.out⟩
        obtain ⟨g8, o8, rfl, c81⟩ := own_last HO7.out HL.out (by have := HLEN.out; omega)
        simp only at c81
        have hn8 : (nl : Int) ≤ 8192 := by have := HLEN.out; omega
        clear hin hfr hri hu' hfr2 hak HAI HAK HO7 HO6 HO5 HO4 HO0 HB0 HB4 HB5 HB6 HY6 HA4 HF4 HEX HOW HBW HIQ HCH HKK
        go_wp2_with fail
        go_roundw
        case rel => exact ⟨u', nl + 1, c8, _, rfl, rfl, hnk, HN8⟩
        case measure => simp [lenV]; omega
end Go.Proofs.Ytimgdkafennohaa.Ds
