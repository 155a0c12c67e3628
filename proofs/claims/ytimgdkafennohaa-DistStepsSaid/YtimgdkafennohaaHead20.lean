/-
  Contracts of small functions, several texts laid into one. Not a statement of the seat.
-/
import Derived.Test.YtimgdkafennohaaHead19
import Derived.Deep.RegionHeld3
import Derived.Deep.DeepCutAuto
import Derived.Test.YtimgdkafennohaaHead18
namespace Go.Proofs.Ytimgdkafennohaa.Ds
open Go.ChangeShapes Go.WideShapes Go.ChangeAt Go.RowKit Base F Gr
/-- Places without a number. -/
def unm (d : Nat → Option Nat) : Nat → Nat
  | 0 => 0
  | n + 1 => unm d n + (if (d n).isNone then 1 else 0)
theorem unm_put (d : Nat → Option Nat) (x v : Nat) (h : d x = none) : ∀ n, unm (putD d x v) n = if x < n then unm d n - 1 else unm d n
  | 0 => by simp [unm]
  | n + 1 => by
    have ih := unm_put d x v h n
    unfold unm
    by_cases e : n = x
    · subst e
      rw [if_neg (Nat.lt_irrefl _)] at ih
      rw [ih, putD_at, h, if_pos (Nat.lt_succ_self _)]
      simp
    · rw [ih, putD_ne d v e]
      by_cases hx : x < n
      · have hp : 0 < unm d n := by
          clear ih
          have : ∀ m, x < m → 0 < unm d m := by
            intro m
            induction m with
            | zero => intro hh; omega
            | succ m im =>
              intro hh
              unfold unm
              by_cases e2 : m = x
              · subst e2; rw [h]; simp
              · have := im (by omega); omega
          exact this n hx
        rw [if_pos hx, if_pos (show x < n + 1 by omega)]
        omega
      · rw [if_neg hx, if_neg (show ¬ x < n + 1 by omega)]
def mu (n : Nat) (s : Ss) : Nat := unm s.d (2 * n) + s.q.length
theorem mu_meet {ok : Nat → Bool} {n k x : Nat} {s : Ss} (hlt : ∀ p, ok p = true → p < 2 * n) : mu n (meetD ok k s x) = mu n s := by
  unfold meetD
  split
  · rename_i hh
    have hx := hlt x hh.1
    unfold mu
    show unm (putD s.d x k) (2 * n) + (s.q ++ [x]).length = _
    have hp : 0 < unm s.d (2 * n) := by
      have : ∀ m, x < m → 0 < unm s.d m := by
        intro m
        induction m with
        | zero => intro hh; omega
        | succ m im =>
          intro hm
          unfold unm
          by_cases e2 : m = x
          · subst e2; rw [hh.2]; simp
          · have := im (by omega); omega
      exact this _ hx
    rw [unm_put _ _ _ hh.2, if_pos hx, List.length_append, List.length_singleton]
    omega
  · rfl
theorem mu_meets {ok : Nat → Bool} {n k : Nat} (hlt : ∀ p, ok p = true → p < 2 * n) : ∀ (xs : List Nat) (s : Ss), mu n (meets ok k s xs) = mu n s
  | [], _ => rfl
  | x :: xs, s => (mu_meets hlt xs (meetD ok k s x)).trans (mu_meet hlt)
/-- The same, read off memory. -/
def negV (v : Option Value) : Bool := match v with | some (.int _ x) => decide (x < 0) | _ => false
def numV (v : Option Value) : Nat := match v with | some (.int _ x) => x.toNat | _ => 0
def unmW (k : Blk) (W : World) : Nat → Nat
  | 0 => 0
  | n + 1 => unmW k W n + (if negV (W.cell? ⟨k.bS, n, none⟩) then 1 else 0)
def muW (k : Blk) (n : Nat) (W : World) : Nat := unmW k W (2 * n) + numV (W.cell? ⟨k.bq, 2, none⟩)
theorem DS.mu {B : Nat} {k : Blk} {n : Nat} {mask must least : Int} {pg : Option Addr} {W : World} {s : Ss} (h : DS B k n mask must least pg W s) : muW k n W = Ds.mu n s := by
  unfold muW Ds.mu
  have h1 : ∀ m, m ≤ 2 * n → unmW k W m = unm s.d m := by
    intro m
    induction m with
    | zero => intro _; rfl
    | succ m im =>
      intro hm
      unfold unmW unm
      rw [im (by omega), (h.step (p := m) (by omega)).1]
      cases e : s.d m with
      | none => rfl
      | some x =>
        have : ¬ ((x : Int) < 0) := by omega
        simp [negV, stepI, this]
  rw [h1 _ (Nat.le_refl _)]
  obtain ⟨_, _, _, j, N, f, cur, _, _, _, _, h8, _, _⟩ := h.que
  have h9 : W.cell? ⟨k.bq, 2, none⟩ = some (.int .i64 ((natI s.q).length : Int)) := by simp [World.cell?, h8, boxQ]
  rw [h9, natI_len]
  simp [numV]
theorem mu_tail (n : Nat) (d : Nat → Option Nat) (q : List Nat) (h : q ≠ []) : mu n ⟨d, q⟩ = mu n ⟨d, q.tail⟩ + 1 := by
  cases q with
  | nil => exact absurd rfl h
  | cons a q => simp [mu]; omega
/-- A search's answers, given as a list, looked at. -/
def chkD (n : Nat) (least : Int) (pv : Nat → List Nat) (a : Nat) (l : List (Option Nat)) : Bool :=
  (List.range (2 * n)).all (fun x => match l.getD x none with
    | none => true
    | some k => okP n least x && ((decide (k = 0) == decide (x = a)) && ((match k with | 0 => true | j + 1 => (List.range (2 * n)).any fun y => (l.getD y none == some j) && decide (x ∈ pv y)) && (pv x).all fun y => !okP n least y || (match l.getD y none with | none => false | some m => decide (m ≤ k + 1)))))
  && ((!okP n least a || (l.getD a none == some 0)) && decide (l.length ≤ 2 * n))
theorem chkD_ok {n : Nat} {least : Int} {pv : Nat → List Nat} {a : Nat} {l : List (Option Nat)} (h : chkD n least pv a l = true) : IsD (okP n least) pv a (fun x => l.getD x none) := by
  unfold chkD at h
  rw [Bool.and_eq_true, Bool.and_eq_true, decide_eq_true_eq, List.all_eq_true] at h
  obtain ⟨h1, h2, h3⟩ := h
  have key : ∀ x k, l.getD x none = some k → x < 2 * n := fun x k hk => by
    rw [List.getD_eq_getElem?_getD] at hk
    rcases Nat.lt_or_ge x l.length with hx | hx
    · omega
    · rw [List.getElem?_eq_none hx] at hk; cases hk
  have all : ∀ x k, l.getD x none = some k → okP n least x = true ∧ (k = 0 ↔ x = a) ∧ (∀ j, k = j + 1 → ∃ y, l.getD y none = some j ∧ x ∈ pv y) ∧ ∀ y ∈ pv x, okP n least y = true → ∃ m, l.getD y none = some m ∧ m ≤ k + 1 := fun x k hk => by
    have := h1 x (List.mem_range.2 (key x k hk))
    rw [hk] at this
    dsimp only at this
    rw [Bool.and_eq_true, Bool.and_eq_true, Bool.and_eq_true, List.all_eq_true] at this
    obtain ⟨g1, g2, g3, g4⟩ := this
    refine ⟨g1, ?_, fun j hj => ?_, fun y hy hok => ?_⟩
    · have := eq_of_beq g2
      rwa [decide_eq_decide] at this
    · subst hj
      dsimp only at g3
      rw [List.any_eq_true] at g3
      obtain ⟨y, _, hy⟩ := g3
      rw [Bool.and_eq_true, decide_eq_true_eq] at hy
      exact ⟨y, eq_of_beq hy.1, hy.2⟩
    · have := g4 y hy
      rw [hok] at this
      cases e : l.getD y none with
      | none => rw [e] at this; simp at this
      | some m => rw [e] at this; exact ⟨m, rfl, by simpa using this⟩
  refine ⟨fun x k hk => (all x k hk).1, fun x k hk => (all x k hk).2.1, fun x k hk => (all x _ hk).2.2.1 k rfl, fun x k hk => (all x k hk).2.2.2, fun ha => ?_⟩
  rw [ha] at h2
  simpa using h2
end Go.Proofs.Ytimgdkafennohaa.Ds
namespace Go.Proofs.Ytimgdkafennohaa.Ds
open Go.ChangeShapes Go.WideShapes Go.ChangeAt Go.RowKit Base F Gr
def NumN (w : World) (zs : List Int) (e : Ending) (w' : World) : Prop := ∃ v, e = .returned v ∧ Lst.OwnI w.heap.size w' v zs ∧ Below w.heap.size w w'
/-- A digraph's arcs, from their ends: what Prev tells, whatever the mask. -/
structure PvOk (W0 : World) (n : Nat) (pg : Option Addr) (pv : Int → Nat → List Nat) : Prop where
  call : ∀ W (v : Nat) (m : Int), v < n → Below W0.heap.size W0 W → Calls Try.prog 44 #[.pointer pg, .int .i64 (v : Nat), .int .i64 m] W (NumN W (natI (pv m v)))
  lt : ∀ m v, v < n → ∀ t ∈ pv m v, t < n
  len : ∀ m v, v < n → (pv m v).length ≤ 1000
/-- Who leads to a place. -/
def pvP (pv : Int → Nat → List Nat) (mask must : Int) (p : Nat) : List Nat := (pv (bits .andNot .i64 mask must) (p / 2)).map (fun t => 2 * t + p % 2) ++ (pv (bits .and .i64 mask must) (p / 2)).map (fun t => 2 * t + 1)
theorem natI_nat {l : List Nat} {j : Nat} (h : j < l.length) : (natI l).getD j 0 = ((l[j] : Nat) : Int) := by
  unfold natI
  rw [List.getD_eq_getElem?_getD, List.getElem?_map, List.getElem?_eq_getElem h]
  rfl
variable {k : Blk} {n : Nat} {mask must least : Int} {pg : Option Addr} {W0 W W' : World} {s : Ss} {pv : Int → Nat → List Nat}
/-- A list that Prev told, while the search goes on. -/
theorem pv_cells {w1 w2 : World} {v : Value} {zs : List Nat} (h : Lst.OwnI w1.heap.size w2 v (natI zs)) (hl : zs.length ≤ 1000) (hk : ∀ g, DF k g → g < w1.heap.size) : ∃ p c, v = .slice p zs.length c ∧ ∀ i, i < zs.length → ∃ g o, p = some ⟨g, o, none⟩ ∧ ∀ wr, Fr (DF k) w2 wr → wr.cell? ⟨g, o + i, none⟩ = some (.int .i64 ((zs.getD i 0 : Nat) : Int)) := by
  obtain ⟨p, c, hv, _, hc⟩ := (h.ints (by rw [natI_len]; omega)).open_
  rw [natI_len] at hv hc
  refine ⟨p, c, hv, fun i hi => ?_⟩
  obtain ⟨g, o, h1, _, h2, h3⟩ := hc i hi
  refine ⟨g, o, h1, fun wr hr => ?_⟩
  have hge : w1.heap.size ≤ g := Lst.own_base h g (by rw [hv, h1]; rfl)
  rw [natI_nat hi] at h3
  rw [World.cell?_of_block (w := w2) (a := ⟨g, o + i, none⟩) (hr.block h2 (fun hF => by have := hk g hF; omega)), h3]
  simp [List.getD_eq_getElem?_getD, hi]
theorem DS.df_lt {B : Nat} (h : DS B k n mask must least pg W s) : ∀ g, DF k g → g < W.heap.size := by
  have := h.que.lt
  rintro g (rfl | rfl | rfl | rfl)
  · exact heap_lt h.head
  · exact heap_lt h.steps
  · exact this.1
  · exact this.2
/-- A number is less than how many places there are. -/
theorem sv_chain {f : Nat → List Nat} {a c : Nat} (h : Sv (okP n least) f a c s) : ∀ (m x : Nat), s.d x = some m → ∃ l : List Nat, l.length = m + 1 ∧ l.Nodup ∧ ∀ y ∈ l, y < 2 * n ∧ ∃ j, j ≤ m ∧ s.d y = some j
  | 0, x, hx => ⟨[x], rfl, by simp, fun y hy => by rw [List.mem_singleton] at hy; rw [hy]; exact ⟨okP_lt (h.okd x 0 hx), 0, Nat.le_refl _, hx⟩⟩
  | m + 1, x, hx => by
    obtain ⟨y, hy, _⟩ := h.wit x m hx
    obtain ⟨l, h1, h2, h3⟩ := sv_chain h m y hy
    refine ⟨x :: l, by rw [List.length_cons, h1], List.nodup_cons.2 ⟨fun hm => ?_, h2⟩, fun z hz => ?_⟩
    · obtain ⟨_, j, hj, hd⟩ := h3 x hm
      rw [hx] at hd
      injection hd with hd
      omega
    · rcases List.mem_cons.1 hz with rfl | hz
      · exact ⟨okP_lt (h.okd z _ hx), m + 1, Nat.le_refl _, hx⟩
      · obtain ⟨g1, j, hj, hd⟩ := h3 z hz
        exact ⟨g1, j, by omega, hd⟩
theorem sv_bound {f : Nat → List Nat} {a c : Nat} (h : Sv (okP n least) f a c s) {m x : Nat} (hx : s.d x = some m) : m < 2 * n := by
  obtain ⟨l, h1, h2, h3⟩ := sv_chain h m x hx
  have := nodup_len l (2 * n) h2 (fun y hy => (h3 y hy).1)
  omega
set_option maxRecDepth 100000 in
set_option maxHeartbeats 16000000 in
theorem back_any (hP : PvOk W0 n pg pv) {a c p : Nat} (h : DS W0.heap.size k n mask must least pg W s) (hb : Below W0.heap.size W0 W) (hs : Sv (okP n least) (pvP pv mask must) a c s) (hp : s.d p = some c) :
    Calls Try.prog 28 #[.pointer (some ⟨k.b, 0, none⟩), .int .i64 ((p / 2 : Nat) : Int), .int .i64 ((p % 2 : Nat) : Int)] W (DP W0.heap.size k n mask must least pg W (meets (okP n least) (c + 1) s (pvP pv mask must p))) := by
  have hok := hs.okd p c hp
  have hlt := okP_lt hok
  have hpn : p / 2 < n := by omega
  have hn4 := h.hn
  obtain ⟨v, hv⟩ : ∃ v, v = p / 2 := ⟨_, rfl⟩
  obtain ⟨st, hst⟩ : ∃ st, st = p % 2 := ⟨_, rfl⟩
  have hst1 : st ≤ 1 := by omega
  have hpe : p = v * 2 + st := by omega
  obtain ⟨m1, hm1⟩ : ∃ m1, m1 = bits .andNot .i64 mask must := ⟨_, rfl⟩
  obtain ⟨m2, hm2⟩ : ∃ m2, m2 = bits .and .i64 mask must := ⟨_, rfl⟩
  have hxs : pvP pv mask must p = (pv m1 v).map (fun t => 2 * t + st) ++ (pv m2 v).map (fun t => 2 * t + 1) := by unfold pvP; rw [← hv, ← hst, ← hm1, ← hm2]
  obtain ⟨d1, _⟩ := h.step hlt
  rw [hp] at d1
  unfold stepI at d1
  simp only at d1
  rw [hpe] at d1
  obtain ⟨c0, c1, c2, c3, c4, c5⟩ := h.cells
  have hvn : v < n := by omega
  have hvi : (v : Int) < (n : Int) := by omega
  have hni : (n : Int) ≤ 4096 := by omega
  have hs2 : (st : Int) < 2 := by omega
  have HMEM : Hid (∀ x, x ∈ pvP pv mask must p → x ∈ pvP pv mask must p) := Lib.hid fun _ hx => hx
  have HSV : Hid (∀ xs, (∀ x ∈ xs, x ∈ pvP pv mask must p) → Sv (okP n least) (pvP pv mask must) a c (meets (okP n least) (c + 1) s xs)) := Lib.hid fun xs hx => hs.meets xs hp hx
  have HLT := Lib.hid h.df_lt
  have HGE := Lib.hid h.df_ge
  have HD : Hid (DS W0.heap.size k n mask must least pg W s) := Lib.hid h
  have HB := Lib.hid hb
  have HPV1 := Lib.hid (hP.call W.drew v m1 hvn (below_drewN hb 1))
  have HPC : Hid (∀ W, Below W0.heap.size W0 W → Calls Try.prog 44 #[.pointer pg, .int .i64 (v : Nat), .int .i64 m2] W (NumN W (natI (pv m2 v)))) := Lib.hid fun W hW => hP.call W v m2 hvn hW
  have HT1 : Hid (∀ i, i < (pv m1 v).length → ∃ t, t < n ∧ (((pv m1 v).getD i 0 : Nat) : Int) = (t : Int) ∧ (pvP pv mask must p).take (i + 1) = (pvP pv mask must p).take i ++ [2 * t + st]) := Lib.hid fun i hi => by
    refine ⟨(pv m1 v)[i], hP.lt m1 v hvn _ (List.getElem_mem hi), by simp [List.getD_eq_getElem?_getD, hi], ?_⟩
    have hi2 : i < (pvP pv mask must p).length := by rw [hxs, List.length_append, List.length_map]; omega
    rw [List.take_succ_eq_append_getElem hi2]
    congr 2
    simp only [hxs]
    rw [List.getElem_append_left (by rw [List.length_map]; exact hi), List.getElem_map]
  have HT2 : Hid (∀ i, i < (pv m2 v).length → ∃ t, t < n ∧ (((pv m2 v).getD i 0 : Nat) : Int) = (t : Int) ∧ (pvP pv mask must p).take ((pv m1 v).length + i + 1) = (pvP pv mask must p).take ((pv m1 v).length + i) ++ [2 * t + 1]) := Lib.hid fun i hi => by
    refine ⟨(pv m2 v)[i], hP.lt m2 v hvn _ (List.getElem_mem hi), by simp [List.getD_eq_getElem?_getD, hi], ?_⟩
    have hi2 : (pv m1 v).length + i < (pvP pv mask must p).length := by rw [hxs, List.length_append, List.length_map, List.length_map]; omega
    rw [List.take_succ_eq_append_getElem hi2]
    congr 2
    simp only [hxs]
    rw [List.getElem_append_right (by rw [List.length_map]; omega), List.getElem_map]
    congr 2
    simp
  have HTE : Hid ((pvP pv mask must p).take ((pv m1 v).length + (pv m2 v).length) = pvP pv mask must p) := Lib.hid (by
    rw [List.take_of_length_le]
    rw [hxs, List.length_append, List.length_map, List.length_map]
    omega)
  have HXL : Hid ((∀ t ∈ pv m1 v, t < n) ∧ (pv m1 v).length ≤ 1000 ∧ (∀ t ∈ pv m2 v, t < n) ∧ (pv m2 v).length ≤ 1000) := Lib.hid ⟨hP.lt m1 v hvn, hP.len m1 v hvn, hP.lt m2 v hvn, hP.len m2 v hvn⟩
  rw [← hv, ← hst]
  obtain ⟨ps, hps⟩ : ∃ ps, ps = pvP pv mask must p := ⟨_, rfl⟩
  rw [← hps] at hxs HSV HMEM HT1 HT2 HTE ⊢
  have HXS := Lib.hid hxs
  have hw1 : IntKind.i64.wrap ((c : Int) + 1) = ((c + 1 : Nat) : Int) := by
    have := sv_bound hs hp
    rw [IntKind.wrap_i64]; omega
  have HE1 := Lib.hid hm1
  have HE2 := Lib.hid hm2
  clear hm1 hm2 hs hP hok hlt hpn hn4 hv hst hpe hxs hps h hb hp
  go_enter Try.func28, Try.ntmps28
  go_wp2_with fail
  refine wp_region_held_drew (S := (fun X => X.cell? ⟨k.b, 0, none⟩ = some (.int .i64 mask) ∧ X.cell? ⟨k.b, 1, none⟩ = some (.int .i64 must) ∧ X.cell? ⟨k.b, 3, none⟩ = some (.pointer pg))) (by kernel_rfl) ⟨c0, c1, c3⟩ (fun hHeld0 => ?_)
  refine wpAnyH_take (i := 0) (v := ?_) rfl (by kernel_rfl) (by kernel_rfl) (by kernel_rfl) (fun _ _ _ h => h) (Or.inl ⟨by rfl, ?yba0⟩) (by assumption) ?qba0
  case yba0 => (intro wz hSw; (try dsimp only at hSw); go_simp <;> with_reducible rfl)
  try simp only [Act.put, List.getElem_toArray, List.getElem_cons_zero, List.setIfInBounds_toArray, List.set_cons_zero, List.set_cons_succ]
  refine wpAnyH_take (i := 1) (v := ?_) rfl (by kernel_rfl) (by kernel_rfl) (by kernel_rfl) (fun _ _ _ h => h) (Or.inl ⟨by rfl, ?yba1⟩) (by assumption) ?qba1
  case yba1 => (intro wz hSw; (try dsimp only at hSw); go_simp <;> with_reducible rfl)
  try simp only [Act.put, List.getElem_toArray, List.getElem_cons_zero, List.getElem_cons_succ, List.setIfInBounds_toArray, List.set_cons_zero, List.set_cons_succ]
  refine wpAnyH_take (i := 2) (v := ?_) rfl (by kernel_rfl) (by kernel_rfl) (by kernel_rfl) (fun _ _ _ h => h) (Or.inl ⟨by rfl, ?yba2⟩) (by assumption) ?qba2
  case yba2 => (intro wz hSw; (try dsimp only at hSw); go_simp <;> with_reducible rfl)
  try simp only [Act.put, List.getElem_toArray, List.getElem_cons_zero, List.getElem_cons_succ, List.setIfInBounds_toArray, List.set_cons_zero, List.set_cons_succ]
  refine wpAnyH_take (i := 3) (v := ?_) rfl (by kernel_rfl) (by kernel_rfl) (by kernel_rfl) (fun _ _ _ h => h) (Or.inl ⟨by rfl, ?yba3⟩) (by assumption) ?qba3
  case yba3 => (intro wz hSw; (try dsimp only at hSw); go_simp <;> with_reducible rfl)
  try simp only [Act.put, List.getElem_toArray, List.getElem_cons_zero, List.getElem_cons_succ, List.setIfInBounds_toArray, List.set_cons_zero, List.set_cons_succ]
  refine wpAnyH_take (i := 4) (v := ?_) rfl (by kernel_rfl) (by kernel_rfl) (by kernel_rfl) (fun _ _ _ h => h) (Or.inl ⟨by rfl, ?yba4⟩) (by assumption) ?qba4
  case yba4 => (intro wz hSw; (try dsimp only at hSw); go_simp <;> with_reducible rfl)
  try simp only [Act.put, List.getElem_toArray, List.getElem_cons_zero, List.getElem_cons_succ, List.setIfInBounds_toArray, List.set_cons_zero, List.set_cons_succ]
  refine wpAnyH_take (i := 5) (v := ?_) rfl (by kernel_rfl) (by kernel_rfl) (by kernel_rfl) (fun _ _ _ h => h) (Or.inl ⟨by rfl, ?yba5⟩) (by assumption) ?qba5
  case yba5 => (intro wz hSw; (try dsimp only at hSw); go_simp <;> with_reducible rfl)
  try simp only [Act.put, List.getElem_toArray, List.getElem_cons_zero, List.getElem_cons_succ, List.setIfInBounds_toArray, List.set_cons_zero, List.set_cons_succ]
  refine wpAnyH_take (i := 6) (v := ?_) rfl (by kernel_rfl) (by kernel_rfl) (by kernel_rfl) (fun _ _ _ h => h) (Or.inl ⟨by rfl, ?yba6⟩) (by assumption) ?qba6
  case yba6 => (intro wz hSw; (try dsimp only at hSw); go_simp <;> with_reducible rfl)
  try simp only [Act.put, List.getElem_toArray, List.getElem_cons_zero, List.getElem_cons_succ, List.setIfInBounds_toArray, List.set_cons_zero, List.set_cons_succ]
  refine wpAnyH_take (i := 7) (v := ?_) rfl (by kernel_rfl) (by kernel_rfl) (by kernel_rfl) (fun _ _ _ h => h) (Or.inl ⟨by rfl, ?yba7⟩) (by assumption) ?qba7
  case yba7 => (intro wz hSw; (try dsimp only at hSw); go_simp <;> with_reducible rfl)
  try simp only [Act.put, List.getElem_toArray, List.getElem_cons_zero, List.getElem_cons_succ, List.setIfInBounds_toArray, List.set_cons_zero, List.set_cons_succ]
  refine wpAnyH_take (i := 8) (v := ?_) rfl (by kernel_rfl) (by kernel_rfl) (by kernel_rfl) (fun _ _ _ h => h) (Or.inl ⟨by rfl, ?yba8⟩) (by assumption) ?qba8
  case yba8 => (intro wz hSw; (try dsimp only at hSw); go_simp <;> with_reducible rfl)
  try simp only [Act.put, List.getElem_toArray, List.getElem_cons_zero, List.getElem_cons_succ, List.setIfInBounds_toArray, List.set_cons_zero, List.set_cons_succ]
  refine wpAnyH_take (i := 9) (v := ?_) rfl (by kernel_rfl) (by kernel_rfl) (by kernel_rfl) (fun _ _ _ h => h) (Or.inl ⟨by rfl, ?yba9⟩) (by assumption) ?qba9
  case yba9 => (intro wz hSw; (try dsimp only at hSw); go_simp <;> with_reducible rfl)
  try simp only [Act.put, List.getElem_toArray, List.getElem_cons_zero, List.getElem_cons_succ, List.setIfInBounds_toArray, List.set_cons_zero, List.set_cons_succ]
  refine wpAnyH_take (i := 10) (v := ?_) rfl (by kernel_rfl) (by kernel_rfl) (by kernel_rfl) (fun _ _ _ h => h) (Or.inl ⟨by rfl, ?yba10⟩) (by assumption) ?qba10
  case yba10 => (intro wz hSw; (try dsimp only at hSw); go_simp <;> with_reducible rfl)
  try simp only [Act.put, List.getElem_toArray, List.getElem_cons_zero, List.getElem_cons_succ, List.setIfInBounds_toArray, List.set_cons_zero, List.set_cons_succ]
  refine wpAnyH_take (i := 11) (v := ?_) rfl (by kernel_rfl) (by kernel_rfl) (by kernel_rfl) (fun _ _ _ h => h) (Or.inl ⟨by rfl, ?yba11⟩) (by assumption) ?qba11
  case yba11 => (intro wz hSw; (try dsimp only at hSw); go_simp <;> with_reducible rfl)
  try simp only [Act.put, List.getElem_toArray, List.getElem_cons_zero, List.getElem_cons_succ, List.setIfInBounds_toArray, List.set_cons_zero, List.set_cons_succ]
  refine wpAnyH_take (i := 12) (v := ?_) rfl (by kernel_rfl) (by kernel_rfl) (by kernel_rfl) (fun _ _ _ h => h) (Or.inl ⟨by rfl, ?yba12⟩) (by assumption) ?qba12
  case yba12 => (intro wz hSw; (try dsimp only at hSw); go_simp <;> with_reducible rfl)
  try simp only [Act.put, List.getElem_toArray, List.getElem_cons_zero, List.getElem_cons_succ, List.setIfInBounds_toArray, List.set_cons_zero, List.set_cons_succ]
  refine wpAnyH_take (i := 13) (v := ?_) rfl (by kernel_rfl) (by kernel_rfl) (by kernel_rfl) (fun _ _ _ h => h) (Or.inl ⟨by rfl, ?yba13⟩) (by assumption) ?qba13
  case yba13 => (intro wz hSw; (try dsimp only at hSw); go_simp <;> with_reducible rfl)
  try simp only [Act.put, List.getElem_toArray, List.getElem_cons_zero, List.getElem_cons_succ, List.setIfInBounds_toArray, List.set_cons_zero, List.set_cons_succ]
  refine wpAnyH_take (i := 14) (v := ?_) rfl (by kernel_rfl) (by kernel_rfl) (by kernel_rfl) (fun _ _ _ h => h) (Or.inl ⟨by rfl, ?yba14⟩) (by assumption) ?qba14
  case yba14 => (intro wz hSw; (try dsimp only at hSw); go_simp <;> with_reducible rfl)
  try simp only [Act.put, List.getElem_toArray, List.getElem_cons_zero, List.getElem_cons_succ, List.setIfInBounds_toArray, List.set_cons_zero, List.set_cons_succ]
  refine wpAnyH_take (i := 15) (v := ?_) rfl (by kernel_rfl) (by kernel_rfl) (by kernel_rfl) (fun _ _ _ h => h) (Or.inl ⟨by rfl, ?yba15⟩) (by assumption) ?qba15
  case yba15 => (intro wz hSw; (try dsimp only at hSw); go_simp <;> with_reducible rfl)
  try simp only [Act.put, List.getElem_toArray, List.getElem_cons_zero, List.getElem_cons_succ, List.setIfInBounds_toArray, List.set_cons_zero, List.set_cons_succ]
  refine wpAnyH_take (i := 18) (v := ?_) rfl (by kernel_rfl) (by kernel_rfl) (by kernel_rfl) (fun _ _ _ h => h) (Or.inl ⟨by rfl, ?yba18⟩) (by assumption) ?qba18
  case yba18 => (intro wz hSw; (try dsimp only at hSw); go_simp <;> with_reducible rfl)
  try simp only [Act.put, List.getElem_toArray, List.getElem_cons_zero, List.getElem_cons_succ, List.setIfInBounds_toArray, List.set_cons_zero, List.set_cons_succ]
  refine wpAnyH_ready (rs := [16]) (by kernel_rfl) (by simp) ?_
  refine AllReadyH.cons rfl (fun K hK => ?_) AllReadyH.nil
  go_simp
  have hm1 := HE1.out
  rw [← hm1]
  clear hm1
  refine HPV1.out.mono ?_
  rintro e w2 ⟨lv, rfl, hown, hb2⟩
  have HD2 := Lib.hid (HD.out.below (Below.trans (below_drewN (Below.refl _ _) 1) (hb2.mono (Nat.le_refl _))))
  have HB2 : Hid (Below W0.heap.size W0 w2) := Lib.hid ((below_drewN HB.out 1).trans (hb2.mono HD.out.size))
  have HB2' : Hid (W0.heap.size ≤ w2.heap.size) := Lib.hid HD2.out.size
  have HF2 : Hid (Fr (DF k) W w2) := Lib.hid (Fr.of_below (Below.trans (below_drewN (Below.refl _ _) 1) (hb2.mono (Nat.le_refl _))))
  obtain ⟨p1, c9, hlv, hcs⟩ := pv_cells hown HXL.out.2.1 HLT.out
  subst hlv
  have HC1 := Lib.hid hcs
  obtain ⟨M1, hM1⟩ : ∃ M1, M1 = (pv m1 v).length := ⟨_, rfl⟩
  have hM1i : (M1 : Int) ≤ 1000 := by have := HXL.out.2.1; omega
  rw [← hM1] at HC1 HT1 HT2 HTE ⊢
  clear hcs hown hb2 hM1
  refine hK.out _ _ (⟨HD2.out.cells.1, HD2.out.cells.2.1, HD2.out.cells.2.2.2.1⟩) (fun hHeldba16 => ?_)
  clear hK K
  try simp only [Act.put, List.getElem_toArray, List.getElem_cons_zero, List.getElem_cons_succ, List.setIfInBounds_toArray, List.set_cons_zero, List.set_cons_succ]
  refine wpAnyH_take (i := 17) (v := ?_) rfl (by kernel_rfl) (by kernel_rfl) (by kernel_rfl) (fun _ _ _ h => h) (Or.inl ⟨by rfl, ?yba17⟩) (by assumption) ?qba17
  case yba17 => (intro wz hSw; (try dsimp only at hSw); go_simp <;> with_reducible rfl)
  try simp only [Act.put, List.getElem_toArray, List.getElem_cons_zero, List.getElem_cons_succ, List.setIfInBounds_toArray, List.set_cons_zero, List.set_cons_succ]
  refine wpAnyH_done (by kernel_rfl) ?_ _
  go_wp2_with fail
  go_loopw [39] (fun s39 wr => ∃ i : Nat, s39 = .int .i64 (i : Int) ∧ i ≤ M1 ∧ Hid (DS W0.heap.size k n mask must least pg wr (meets (okP n least) (c + 1) s (ps.take i)) ∧ Fr (DF k) w2 wr)) (fun s39 _ => M1 - (intOf s39).toNat)
  case atStart => exact ⟨0, rfl, Nat.zero_le _, Lib.hid ⟨HD2.out, Fr.refl _ _⟩⟩
  case round =>
    obtain ⟨i, rfl, hi, HI⟩ := hrel
    by_cases hlt : i < M1
    · obtain ⟨g, o, rfl, hcl⟩ := HC1.out i hlt
      have hx := hcl _ HI.out.2
      obtain ⟨t, htn, hge, htk⟩ := HT1.out i hlt
      rw [hge] at hx
      have HSTEP : Hid (meets (okP n least) (c + 1) s (ps.take (i + 1)) = meetD (okP n least) (c + 1) (meets (okP n least) (c + 1) s (ps.take i)) (2 * t + st)) := Lib.hid (by rw [htk, meets_snoc])
      have HM := Lib.hid (meet_any (kk := c + 1) HI.out.1 (HSV.out (ps.take i) (fun x hx => HMEM.out x (List.mem_of_mem_take hx))) htn hst1)
      rw [← HSTEP.out] at HM
      have HF := Lib.hid HI.out.2
      clear hcl htk HI HSTEP hge
      go_wp2_with fail
      refine HM.out.mono ?_
      rintro e w3 ⟨rfl, h1, h2⟩
      have HN : Hid (DS W0.heap.size k n mask must least pg w3 (meets (okP n least) (c + 1) s (ps.take (i + 1))) ∧ Fr (DF k) w2 w3) := Lib.hid ⟨h1, HF.out.trans h2 (fun _ _ e => e)⟩
      clear h1 h2 HM HF
      go_wp2_with fail
      go_roundw
      case rel => exact ⟨i + 1, by go_num, by omega, HN⟩
      case measure => simp [intOf]; omega
    · have e : M1 = i := by omega
      subst e
      have HD3 := Lib.hid HI.out.1
      have HF3 := Lib.hid HI.out.2
      have HB3 : Hid (Below W0.heap.size W0 wr) := Lib.hid (HB2.out.trans (HF3.out.below HGE.out HB2'.out))
      have HPV2 := Lib.hid (HPC.out wr.drew (below_drewN HB3.out 1))
      obtain ⟨c0, c1, c2, c3, c4, c5⟩ := HD3.out.cells
      clear HI hlt hi
      go_wp2_with fail
      refine wp_region_held_drew (S := (fun X => X.cell? ⟨k.b, 0, none⟩ = some (.int .i64 mask) ∧ X.cell? ⟨k.b, 1, none⟩ = some (.int .i64 must) ∧ X.cell? ⟨k.b, 3, none⟩ = some (.pointer pg))) (by kernel_rfl) ⟨c0, c1, c3⟩ (fun hHeld0 => ?_)
      refine wpAnyH_take (i := 0) (v := ?_) rfl (by kernel_rfl) (by kernel_rfl) (by kernel_rfl) (fun _ _ _ h => h) (Or.inl ⟨by rfl, ?ybb0⟩) (by assumption) ?qbb0
      case ybb0 => (intro wz hSw; (try dsimp only at hSw); go_simp <;> with_reducible rfl)
      try simp only [Act.put, List.getElem_toArray, List.getElem_cons_zero, List.setIfInBounds_toArray, List.set_cons_zero, List.set_cons_succ]
      refine wpAnyH_take (i := 1) (v := ?_) rfl (by kernel_rfl) (by kernel_rfl) (by kernel_rfl) (fun _ _ _ h => h) (Or.inl ⟨by rfl, ?ybb1⟩) (by assumption) ?qbb1
      case ybb1 => (intro wz hSw; (try dsimp only at hSw); go_simp <;> with_reducible rfl)
      try simp only [Act.put, List.getElem_toArray, List.getElem_cons_zero, List.getElem_cons_succ, List.setIfInBounds_toArray, List.set_cons_zero, List.set_cons_succ]
      refine wpAnyH_take (i := 2) (v := ?_) rfl (by kernel_rfl) (by kernel_rfl) (by kernel_rfl) (fun _ _ _ h => h) (Or.inl ⟨by rfl, ?ybb2⟩) (by assumption) ?qbb2
      case ybb2 => (intro wz hSw; (try dsimp only at hSw); go_simp <;> with_reducible rfl)
      try simp only [Act.put, List.getElem_toArray, List.getElem_cons_zero, List.getElem_cons_succ, List.setIfInBounds_toArray, List.set_cons_zero, List.set_cons_succ]
      refine wpAnyH_take (i := 3) (v := ?_) rfl (by kernel_rfl) (by kernel_rfl) (by kernel_rfl) (fun _ _ _ h => h) (Or.inl ⟨by rfl, ?ybb3⟩) (by assumption) ?qbb3
      case ybb3 => (intro wz hSw; (try dsimp only at hSw); go_simp <;> with_reducible rfl)
      try simp only [Act.put, List.getElem_toArray, List.getElem_cons_zero, List.getElem_cons_succ, List.setIfInBounds_toArray, List.set_cons_zero, List.set_cons_succ]
      refine wpAnyH_take (i := 4) (v := ?_) rfl (by kernel_rfl) (by kernel_rfl) (by kernel_rfl) (fun _ _ _ h => h) (Or.inl ⟨by rfl, ?ybb4⟩) (by assumption) ?qbb4
      case ybb4 => (intro wz hSw; (try dsimp only at hSw); go_simp <;> with_reducible rfl)
      try simp only [Act.put, List.getElem_toArray, List.getElem_cons_zero, List.getElem_cons_succ, List.setIfInBounds_toArray, List.set_cons_zero, List.set_cons_succ]
      refine wpAnyH_take (i := 5) (v := ?_) rfl (by kernel_rfl) (by kernel_rfl) (by kernel_rfl) (fun _ _ _ h => h) (Or.inl ⟨by rfl, ?ybb5⟩) (by assumption) ?qbb5
      case ybb5 => (intro wz hSw; (try dsimp only at hSw); go_simp <;> with_reducible rfl)
      try simp only [Act.put, List.getElem_toArray, List.getElem_cons_zero, List.getElem_cons_succ, List.setIfInBounds_toArray, List.set_cons_zero, List.set_cons_succ]
      refine wpAnyH_take (i := 6) (v := ?_) rfl (by kernel_rfl) (by kernel_rfl) (by kernel_rfl) (fun _ _ _ h => h) (Or.inl ⟨by rfl, ?ybb6⟩) (by assumption) ?qbb6
      case ybb6 => (intro wz hSw; (try dsimp only at hSw); go_simp <;> with_reducible rfl)
      try simp only [Act.put, List.getElem_toArray, List.getElem_cons_zero, List.getElem_cons_succ, List.setIfInBounds_toArray, List.set_cons_zero, List.set_cons_succ]
      refine wpAnyH_take (i := 7) (v := ?_) rfl (by kernel_rfl) (by kernel_rfl) (by kernel_rfl) (fun _ _ _ h => h) (Or.inl ⟨by rfl, ?ybb7⟩) (by assumption) ?qbb7
      case ybb7 => (intro wz hSw; (try dsimp only at hSw); go_simp <;> with_reducible rfl)
      try simp only [Act.put, List.getElem_toArray, List.getElem_cons_zero, List.getElem_cons_succ, List.setIfInBounds_toArray, List.set_cons_zero, List.set_cons_succ]
      refine wpAnyH_take (i := 8) (v := ?_) rfl (by kernel_rfl) (by kernel_rfl) (by kernel_rfl) (fun _ _ _ h => h) (Or.inl ⟨by rfl, ?ybb8⟩) (by assumption) ?qbb8
      case ybb8 => (intro wz hSw; (try dsimp only at hSw); go_simp <;> with_reducible rfl)
      try simp only [Act.put, List.getElem_toArray, List.getElem_cons_zero, List.getElem_cons_succ, List.setIfInBounds_toArray, List.set_cons_zero, List.set_cons_succ]
      refine wpAnyH_take (i := 9) (v := ?_) rfl (by kernel_rfl) (by kernel_rfl) (by kernel_rfl) (fun _ _ _ h => h) (Or.inl ⟨by rfl, ?ybb9⟩) (by assumption) ?qbb9
      case ybb9 => (intro wz hSw; (try dsimp only at hSw); go_simp <;> with_reducible rfl)
      try simp only [Act.put, List.getElem_toArray, List.getElem_cons_zero, List.getElem_cons_succ, List.setIfInBounds_toArray, List.set_cons_zero, List.set_cons_succ]
      refine wpAnyH_take (i := 10) (v := ?_) rfl (by kernel_rfl) (by kernel_rfl) (by kernel_rfl) (fun _ _ _ h => h) (Or.inl ⟨by rfl, ?ybb10⟩) (by assumption) ?qbb10
      case ybb10 => (intro wz hSw; (try dsimp only at hSw); go_simp <;> with_reducible rfl)
      try simp only [Act.put, List.getElem_toArray, List.getElem_cons_zero, List.getElem_cons_succ, List.setIfInBounds_toArray, List.set_cons_zero, List.set_cons_succ]
      refine wpAnyH_take (i := 11) (v := ?_) rfl (by kernel_rfl) (by kernel_rfl) (by kernel_rfl) (fun _ _ _ h => h) (Or.inl ⟨by rfl, ?ybb11⟩) (by assumption) ?qbb11
      case ybb11 => (intro wz hSw; (try dsimp only at hSw); go_simp <;> with_reducible rfl)
      try simp only [Act.put, List.getElem_toArray, List.getElem_cons_zero, List.getElem_cons_succ, List.setIfInBounds_toArray, List.set_cons_zero, List.set_cons_succ]
      refine wpAnyH_take (i := 12) (v := ?_) rfl (by kernel_rfl) (by kernel_rfl) (by kernel_rfl) (fun _ _ _ h => h) (Or.inl ⟨by rfl, ?ybb12⟩) (by assumption) ?qbb12
      case ybb12 => (intro wz hSw; (try dsimp only at hSw); go_simp <;> with_reducible rfl)
      try simp only [Act.put, List.getElem_toArray, List.getElem_cons_zero, List.getElem_cons_succ, List.setIfInBounds_toArray, List.set_cons_zero, List.set_cons_succ]
      refine wpAnyH_take (i := 13) (v := ?_) rfl (by kernel_rfl) (by kernel_rfl) (by kernel_rfl) (fun _ _ _ h => h) (Or.inl ⟨by rfl, ?ybb13⟩) (by assumption) ?qbb13
      case ybb13 => (intro wz hSw; (try dsimp only at hSw); go_simp <;> with_reducible rfl)
      try simp only [Act.put, List.getElem_toArray, List.getElem_cons_zero, List.getElem_cons_succ, List.setIfInBounds_toArray, List.set_cons_zero, List.set_cons_succ]
      refine wpAnyH_take (i := 14) (v := ?_) rfl (by kernel_rfl) (by kernel_rfl) (by kernel_rfl) (fun _ _ _ h => h) (Or.inl ⟨by rfl, ?ybb14⟩) (by assumption) ?qbb14
      case ybb14 => (intro wz hSw; (try dsimp only at hSw); go_simp <;> with_reducible rfl)
      try simp only [Act.put, List.getElem_toArray, List.getElem_cons_zero, List.getElem_cons_succ, List.setIfInBounds_toArray, List.set_cons_zero, List.set_cons_succ]
      refine wpAnyH_take (i := 15) (v := ?_) rfl (by kernel_rfl) (by kernel_rfl) (by kernel_rfl) (fun _ _ _ h => h) (Or.inl ⟨by rfl, ?ybb15⟩) (by assumption) ?qbb15
      case ybb15 => (intro wz hSw; (try dsimp only at hSw); go_simp <;> with_reducible rfl)
      try simp only [Act.put, List.getElem_toArray, List.getElem_cons_zero, List.getElem_cons_succ, List.setIfInBounds_toArray, List.set_cons_zero, List.set_cons_succ]
      refine wpAnyH_take (i := 18) (v := ?_) rfl (by kernel_rfl) (by kernel_rfl) (by kernel_rfl) (fun _ _ _ h => h) (Or.inl ⟨by rfl, ?ybb18⟩) (by assumption) ?qbb18
      case ybb18 => (intro wz hSw; (try dsimp only at hSw); go_simp <;> with_reducible rfl)
      try simp only [Act.put, List.getElem_toArray, List.getElem_cons_zero, List.getElem_cons_succ, List.setIfInBounds_toArray, List.set_cons_zero, List.set_cons_succ]
      refine wpAnyH_ready (rs := [16]) (by kernel_rfl) (by simp) ?_
      refine AllReadyH.cons rfl (fun K hK => ?_) AllReadyH.nil
      go_simp
      have hm2 := HE2.out
      rw [← hm2]
      clear hm2
      refine HPV2.out.mono ?_
      rintro e w4 ⟨lv2, rfl, hown2, hb4⟩
      have HD4 := Lib.hid (HD3.out.below (Below.trans (below_drewN (Below.refl _ _) 1) (hb4.mono (Nat.le_refl _))))
      have HF4 : Hid (Fr (DF k) W w4) := Lib.hid ((HF2.out.trans HF3.out (fun _ _ e => e)).trans (Fr.of_below (F := DF k) (Below.trans (below_drewN (Below.refl _ _) 1) (hb4.mono (Nat.le_refl _)))) (fun _ _ e => e))
      obtain ⟨p2, c8, hlv2, hcs2⟩ := pv_cells hown2 HXL.out.2.2.2 HD3.out.df_lt
      subst hlv2
      have HC2 := Lib.hid hcs2
      obtain ⟨M2, hM2⟩ : ∃ M2, M2 = (pv m2 v).length := ⟨_, rfl⟩
      have hM2i : (M2 : Int) ≤ 1000 := by have := HXL.out.2.2.2; omega
      rw [← hM2] at HC2 HT2 HTE ⊢
      clear hcs2 hown2 hb4 hM2
      refine hK.out _ _ (⟨HD4.out.cells.1, HD4.out.cells.2.1, HD4.out.cells.2.2.2.1⟩) (fun hHeldbb16 => ?_)
      clear hK K
      try simp only [Act.put, List.getElem_toArray, List.getElem_cons_zero, List.getElem_cons_succ, List.setIfInBounds_toArray, List.set_cons_zero, List.set_cons_succ]
      refine wpAnyH_take (i := 17) (v := ?_) rfl (by kernel_rfl) (by kernel_rfl) (by kernel_rfl) (fun _ _ _ h => h) (Or.inl ⟨by rfl, ?ybb17⟩) (by assumption) ?qbb17
      case ybb17 => (intro wz hSw; (try dsimp only at hSw); go_simp <;> with_reducible rfl)
      try simp only [Act.put, List.getElem_toArray, List.getElem_cons_zero, List.getElem_cons_succ, List.setIfInBounds_toArray, List.set_cons_zero, List.set_cons_succ]
      refine wpAnyH_done (by kernel_rfl) ?_ _
      go_wp2_with fail
      go_loopw [67] (fun s67 wr => ∃ i : Nat, s67 = .int .i64 (i : Int) ∧ i ≤ M2 ∧ Hid (DS W0.heap.size k n mask must least pg wr (meets (okP n least) (c + 1) s (ps.take (M1 + i))) ∧ Fr (DF k) w4 wr)) (fun s67 _ => M2 - (intOf s67).toNat)
      case atStart => exact ⟨0, rfl, Nat.zero_le _, Lib.hid ⟨HD4.out, Fr.refl _ _⟩⟩
      case round =>
        obtain ⟨i, rfl, hi, HI⟩ := hrel
        by_cases hlt : i < M2
        · obtain ⟨g, o, rfl, hcl⟩ := HC2.out i hlt
          have hx := hcl _ HI.out.2
          obtain ⟨t, htn, hge, htk⟩ := HT2.out i hlt
          rw [hge] at hx
          have HSTEP : Hid (meets (okP n least) (c + 1) s (ps.take (M1 + (i + 1))) = meetD (okP n least) (c + 1) (meets (okP n least) (c + 1) s (ps.take (M1 + i))) (2 * t + 1)) := Lib.hid (by rw [show M1 + (i + 1) = M1 + i + 1 by omega, htk, meets_snoc])
          have HM := Lib.hid (meet_any (kk := c + 1) HI.out.1 (HSV.out (ps.take (M1 + i)) (fun x hx => HMEM.out x (List.mem_of_mem_take hx))) htn (Nat.le_refl 1))
          rw [← HSTEP.out] at HM
          have HF := Lib.hid HI.out.2
          clear hcl htk HI HSTEP hge
          go_wp2_with fail
          refine HM.out.mono ?_
          rintro e w5 ⟨rfl, h1, h2⟩
          have HN : Hid (DS W0.heap.size k n mask must least pg w5 (meets (okP n least) (c + 1) s (ps.take (M1 + (i + 1)))) ∧ Fr (DF k) w4 w5) := Lib.hid ⟨h1, HF.out.trans h2 (fun _ _ e => e)⟩
          clear h1 h2 HM HF
          go_wp2_with fail
          go_roundw
          case rel => exact ⟨i + 1, by go_num, by omega, HN⟩
          case measure => simp [intOf]; omega
        · have e : M2 = i := by omega
          subst e
          have HE := HI.out
          rw [HTE.out] at HE
          have HR : Hid (DP W0.heap.size k n mask must least pg W (meets (okP n least) (c + 1) s ps) (.returned (.tuple #[])) wr) := Lib.hid ⟨rfl, HE.1, HF4.out.trans HE.2 (fun _ _ e => e)⟩
          clear HI HE
          go_wp2_with fail
          exact bodyPost_ret (v := .tuple #[]) (results_none rfl _ _ _) rfl HR.out
end Go.Proofs.Ytimgdkafennohaa.Ds
namespace Go.Proofs.Ytimgdkafennohaa.Ds
open Go.ChangeShapes Go.WideShapes Go.ChangeAt Go.RowKit Base F Gr
theorem ofA_right {n : Nat} {q : List Arc} (hq : GoodA n q) (m : Int) : ∀ x ∈ ofA q m, rightO n x := fun x hx => hq.1 x (List.mem_filter.1 hx).1
def prQ (q : List Arc) (m : Int) (v : Nat) : List Nat := prN (ofA q m) v
theorem pvOk_of {W0 : World} {B b n : Nat} {q : List Arc} {nbs : Bool → Nat} (h : GQ W0 B b n q nbs) (hn : n ≤ 4096) (hl : q.length ≤ 400) : PvOk W0 n (some ⟨b, 0, none⟩) (prQ q) := by
  have hr := ofA_right h.1
  refine ⟨fun W v m hv hW => ?_, fun m v hv t ht => ?_, fun m v hv => ?_⟩
  · refine (prev_q (h.below hW) hn m (v : Int)).mono ?_
    rintro e w' ⟨x, he, ho, hb⟩
    rw [prN_cast (hr m)] at ho
    exact ⟨x, he, ho, hb⟩
  · obtain ⟨x, hx, h1, _⟩ := (mem_prN (hr m)).1 ht
    have := hr m x hx
    unfold rightO at this
    omega
  · unfold prQ prN
    rw [List.length_map]
    have h1 := sideO_len (ofA q m) (v : Int) true
    have h2 := ofA_len q m
    omega
theorem pvOk_nil (W0 : World) (pv : Int → Nat → List Nat) : PvOk W0 0 none pv := ⟨fun _ _ _ h => absurd h (by omega), fun _ _ h => absurd h (by omega), fun _ _ h => absurd h (by omega)⟩
theorem and_zero (m : Int) : bits .and .i64 m 0 = 0 := by
  show IntKind.i64.wrap ((BitVec.ofInt 64 m &&& BitVec.ofInt 64 0).toNat : Int) = 0
  rw [show BitVec.ofInt 64 0 = 0#64 from rfl, BitVec.and_zero]
  rfl
theorem zero_and (m : Int) : bits .and .i64 0 m = 0 := by
  show IntKind.i64.wrap ((BitVec.ofInt 64 0 &&& BitVec.ofInt 64 m).toNat : Int) = 0
  rw [show BitVec.ofInt 64 0 = 0#64 from rfl, BitVec.zero_and]
  rfl
theorem andNot_zero (m : Int) (h : -9223372036854775808 ≤ m ∧ m ≤ 9223372036854775807) : bits .andNot .i64 m 0 = m := by
  show IntKind.i64.wrap ((BitVec.ofInt 64 m &&& ~~~(BitVec.ofInt 64 0)).toNat : Int) = m
  rw [show ~~~(BitVec.ofInt 64 0) = BitVec.allOnes 64 from by decide, BitVec.and_allOnes, BitVec.toNat_ofInt, IntKind.wrap_i64]
  omega
theorem prQ_zero (q : List Arc) (v : Nat) : prQ q 0 v = [] := by
  have e : ofA q 0 = [] := by
    unfold ofA
    rw [List.filter_eq_nil_iff]
    intro x _
    unfold rbit
    rw [zero_and]
    decide
  unfold prQ prN
  rw [e]
  rfl
/-- Without a must, walks are of one kind. -/
theorem pvP_zero (q : List Arc) (mask : Int) (h : -9223372036854775808 ≤ mask ∧ mask ≤ 9223372036854775807) : pvP (prQ q) mask 0 = pvE (prQ q mask) := by
  funext p
  unfold pvP pvE
  rw [and_zero, prQ_zero, andNot_zero mask h, List.map_nil, List.append_nil]
theorem okP_iff {n : Nat} {least : Int} (p : Nat) : okP n least p = true ↔ (least ≤ ((p / 2 : Nat) : Int) ∧ p / 2 < n) := by
  unfold okP
  rw [Bool.and_eq_true, decide_eq_true_eq, decide_eq_true_eq]
end Go.Proofs.Ytimgdkafennohaa.Ds
