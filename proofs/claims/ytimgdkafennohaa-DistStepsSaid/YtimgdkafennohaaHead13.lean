/-
  Contracts of small functions, several texts laid into one. Not a statement of the seat.
-/
import Derived.Test.YtimgdkafennohaaHead12
import Derived.Test.YtimgdkafennohaaDl6
import Derived.RegionTactic
import Derived.BigRegion
import Derived.Deep.RegionHeld3
namespace Go.Proofs.Ytimgdkafennohaa.Gr
open Go.ChangeShapes Go.WideShapes Go.ChangeAt Go.RowKit Base Ro F Dl Ln
variable {w : World} {B b n : Nat} {xs : List Nat} {nbs : Bool → Nat} {Vs : Bool → Nat → Value} {cnt : Bool → Nat → Nat → Nat → Int}
/-- The blocks that a change of a digraph turns. -/
def AF (w : World) (B b : Nat) (nbs : Bool → Nat) (h : Nat) : Prop := h = b ∨ (∃ s, h = nbs s) ∨ (B ≤ h ∧ ∃ cs T, w.heap[h]? = some (Obj.cells cs T (0, 0)) ∧ (T = 56 ∨ T = 78 ∨ T = 73))
/-- Two changes, one behind the other. -/
theorem af_trans {w w1 w2 : World} {B b : Nat} {nbs : Bool → Nat} (h : Fr (AF w B b nbs) w w1) (k : Fr (AF w1 B b nbs) w1 w2) : Fr (AF w B b nbs) w w2 := by
  refine h.trans k (fun g hg hh => ?_)
  by_cases hA : AF w B b nbs g
  · exact hA
  · have := h.block hg hA
    rcases hh with hh | hh | ⟨h1, cs, T, h2, h3⟩
    · exact .inl hh
    · exact .inr (.inl hh)
    · exact .inr (.inr ⟨h1, cs, T, this ▸ h2, h3⟩)
theorem af_lf {w w' : World} {B b : Nat} (nbs : Bool → Nat) (h : Fr (LF w B b) w w') : Fr (AF w B b nbs) w w' :=
  h.mono fun g hh => by
    rcases hh with hh | ⟨h1, cs, T, h2, h3⟩
    · exact .inl hh
    · exact .inr (.inr ⟨h1, cs, T, h2, by rcases h3 with h3 | h3 <;> simp [h3]⟩)
/-- A box that a call holds is none of them. -/
theorem af_box {w w' : World} {B b : Nat} {nbs : Bool → Nat} (h : Fr (AF w B b nbs) w w') {g : Nat} {cs : Array Value} {T : TypeId} (hg : w.heap[g]? = some (Obj.cells cs T (0, 0))) (hb : g ≠ b) (hn : ∀ s, g ≠ nbs s) (hT : T ≠ 56 ∧ T ≠ 78 ∧ T ≠ 73) : w'.heap[g]? = w.heap[g]? := by
  refine h.block (heap_lt hg) (fun hh => ?_)
  rcases hh with hh | ⟨s, hh⟩ | ⟨_, cs', T', h2, h3⟩
  · exact hb hh
  · exact hn s hh
  · rw [hg] at h2
    simp only [Option.some.injEq, Obj.cells.injEq] at h2
    rw [← h2.2.1] at h3
    rcases h3 with h3 | h3 | h3
    · exact hT.1 h3
    · exact hT.2.1 h3
    · exact hT.2.2 h3
theorem GS.v (h : GS w B b n xs nbs Vs cnt) : GrV w (.pointer (some ⟨b, 0, none⟩)) xs.length n := by
  obtain ⟨V, h1, h2⟩ := h.own
  obtain ⟨p, c, rfl⟩ := h2.form
  exact .inr ⟨b, _, _, _, _, _, _, _, _, rfl, h1⟩
theorem has_gs (h : GS w B b n xs nbs Vs cnt) (x : Nat) : Calls Try.prog 20 #[.pointer (some ⟨b, 0, none⟩), .int .u64 (x : Int)] w fun e w' => e = .returned (.bool (decide (x ∈ xs))) ∧ Below w.heap.size w w' := by
  obtain ⟨V, h1, h2⟩ := h.own
  exact has_x x w h2 h.good h1
theorem put_gs_there (h : GS w B b n xs nbs Vs cnt) {x : Nat} (hx : x ∈ xs) : Calls Try.prog 22 #[.pointer (some ⟨b, 0, none⟩), .int .u64 (x : Int)] w fun e w' => e = .returned (.bool false) ∧ Below w.heap.size w w' := by
  obtain ⟨V, h1, h2⟩ := h.own
  exact put_there x w h2 h.good h1 hx
theorem put_gs (h : GS w B b n xs nbs Vs cnt) {x : Nat} (hx : x ∉ xs) (hl : xs.length < 499) (hx2 : x < 18446744073709551616) : Calls Try.prog 22 #[.pointer (some ⟨b, 0, none⟩), .int .u64 (x : Int)] w fun e w' => e = .returned (.bool true) ∧ GS w' B b n (insX xs x) nbs Vs cnt ∧ Fr (AF w B b nbs) w w' := by
  obtain ⟨V, h1, h2⟩ := h.own
  refine (put_any x w h2 h.good hl h1 hx h.hB).mono ?_
  rintro e w' ⟨rfl, V', k1, k2, k3⟩
  refine ⟨rfl, h.lst (V' := V') (by rw [insX_len]; exact k1) k2 ⟨insX_up h.good.1 hx, by rw [insX_len]; omega, fun y hy => ?_⟩ k3, af_lf nbs k3⟩
  rcases insX_mem.1 hy with rfl | hy
  · exact hx2
  · exact h.good.2.2 y hy
theorem chg_gs (h : GS w B b n xs nbs Vs cnt) (hn : n ≤ 4096) (s : Bool) {a c k : Nat} {v by_ : Int} (ha : a < n) (hc : c < n) (hk : k < 4) (hv : v = cnt s a c k + by_) (hby : by_ = 1 ∨ by_ = -1 ∧ 0 < cnt s a c k) (hv2 : 0 ≤ v ∧ v ≤ 1000000) :
    Calls Try.prog 23 #[.pointer (some ⟨nbs s, a, none⟩), .int .i64 (c : Int), .int .i64 (k : Int), .int .i64 by_] w fun e w' => e = .returned (.tuple #[]) ∧ (∃ V', GS w' B b n xs nbs (updV Vs s a V') (updC cnt s a c k v)) ∧ Fr (AF w B b nbs) w w' := by
  have hr := h.row s
  have hV : w.cell? ⟨nbs s, a, none⟩ = some (Vs s a) := by simp [World.cell?, hr, ha]
  have hfz : w.frozen? ⟨nbs s, a, none⟩ = false := by simp [World.frozen?, hr]
  have hnb : (Vs s a).ownBlock ≠ some (nbs s) := fun e => by
    obtain ⟨cur, hc⟩ := own_kind (h.lk s a ha) e
    rw [hr] at hc
    simp only [Option.some.injEq, Obj.cells.injEq] at hc
    exact absurd hc.2.1 (by decide)
  refine (change_any w hV (heap_lt hr) (h.lk s a ha) (by omega) hc hk (h.bnd s a) hv hby hnb hfz h.hB).mono fun e w' hp => ⟨(h.chg ha hv2 hp).1, (h.chg ha hv2 hp).2, ?_⟩
  obtain ⟨_, V', _, _, _, hf⟩ := hp
  refine hf.mono fun g hh => ?_
  rcases hh with hh | hh
  · obtain ⟨cur, hc⟩ := own_kind (h.lk s a ha) hh
    exact .inr (.inr ⟨((h.lk s a ha).lt g hh).1, cur, _, hc, .inr (.inr rfl)⟩)
  · exact .inr (.inl ⟨s, hh⟩)
/-- An arc's number. -/
def numN (f t k l : Nat) : Nat := f * 17179869184 + k * 4294967296 + l * 4096 + t
theorem numN_int (f t k l : Nat) : ((numN f t k l : Nat) : Int) = numI f t k l := by unfold numN numI; omega
end Go.Proofs.Ytimgdkafennohaa.Gr
namespace Go.Proofs.Ytimgdkafennohaa.Gr
open Go.ChangeShapes Go.WideShapes Go.ChangeAt Go.RowKit Base Ro F Dl Ln
theorem box6 {w w1 : World} {c : Array Value} {t : TypeId} (hb : Below (w.heap.size + 1) (w.alloc (.cells c t)) w1) (j : Nat) : w1.cell? ⟨w.heap.size, j, none⟩ = c[j]? :=
  (hb.cell (p := ⟨w.heap.size, j, none⟩) (by simp)).trans (box_cell w c t j)
set_option maxHeartbeats 4000000 in
set_option maxRecDepth 100000 in
theorem add_bad {w : World} {m n : Nat} {pv : Value} (h : GrV w pv m n) {f t k l : Int} (hr : ¬ rightA n f t k l) : Calls Try.prog 13 #[pv, .agg #[.int .i64 f, .int .i64 t, .int .i64 k, .int .i64 l]] w (HeldP (.int .i64 1) w) := by
  have hws : ∀ o, Below w.heap.size w (w.alloc o) := fun o => (Below.refl _ _).alloc (Nat.le_refl _) o
  have H1 := Lib.hid (isRight_any (h.below (hws (.cells #[.int .i64 f, .int .i64 t, .int .i64 k, .int .i64 l] 32))) f t k l)
  rw [decide_eq_false hr] at H1
  have HW := Lib.hid hws
  clear h hr hws
  go_enter Try.func13, Try.ntmps13
  go_wp2_with fail
  refine H1.out.mono ?_
  rintro e w1 ⟨rfl, hb⟩
  have HB := Lib.hid ((HW.out _).trans (hb.mono (HW.out _).size))
  clear hb H1 HW
  go_wp2
  go_ret
  exact ⟨rfl, HB.out⟩
set_option maxHeartbeats 4000000 in
set_option maxRecDepth 100000 in
theorem add_there {w : World} {B b n : Nat} {xs : List Nat} {nbs : Bool → Nat} {Vs : Bool → Nat → Value} {cnt : Bool → Nat → Nat → Nat → Int} (h : GS w B b n xs nbs Vs cnt) (hn : n ≤ 4096) {f t k l : Nat} (hr : rightA n f t k l) (hx : numN f t k l ∈ xs) :
    Calls Try.prog 13 #[.pointer (some ⟨b, 0, none⟩), .agg #[.int .i64 (f : Int), .int .i64 (t : Int), .int .i64 (k : Int), .int .i64 (l : Int)]] w (HeldP (.int .i64 4) w) := by
  have hws : ∀ o, Below w.heap.size w (w.alloc o) := fun o => (Below.refl _ _).alloc (Nat.le_refl _) o
  have H1 := Lib.hid (isRight_any (h.below (hws (.cells #[.int .i64 (f : Int), .int .i64 (t : Int), .int .i64 (k : Int), .int .i64 (l : Int)] 32))).v (f : Int) (t : Int) (k : Int) (l : Int))
  rw [decide_eq_true hr] at H1
  unfold rightA at hr
  have H2 : Hid (∀ Y, Calls Try.prog 21 #[.agg #[.int .i64 (f : Int), .int .i64 (t : Int), .int .i64 (k : Int), .int .i64 (l : Int)]] Y fun e w' => e = .returned (.int .u64 (numN f t k l : Nat)) ∧ Below Y.heap.size Y w') := Lib.hid fun Y => by
    rw [numN_int]
    exact number_any f t k l (by omega) (by omega) (by omega) (by omega) (by omega) (by omega) (by omega) (by omega) Y
  have H3 : Hid (∀ Y, Below w.heap.size w Y → Calls Try.prog 22 #[.pointer (some ⟨b, 0, none⟩), .int .u64 (numN f t k l : Nat)] Y fun e w' => e = .returned (.bool false) ∧ Below w.heap.size w w') := Lib.hid fun Y hY =>
    (put_gs_there (h.below hY) hx).mono fun e w' hh => ⟨hh.1, hY.trans (hh.2.mono hY.size)⟩
  have HW := Lib.hid hws
  generalize numN f t k l = x at *
  clear h hr hws hx
  go_enter Try.func13, Try.ntmps13
  go_wp2_with fail
  refine H1.out.mono ?_
  rintro e w1 ⟨rfl, hb⟩
  have HB : Hid (Below w.heap.size w w1.drew) := Lib.hid (below_drewN ((HW.out _).trans (hb.mono (HW.out _).size)) 1)
  have hb' : Below (w.heap.size + 1) (w.alloc (.cells #[.int .i64 (f : Int), .int .i64 (t : Int), .int .i64 (k : Int), .int .i64 (l : Int)] 32)) w1 := hb.mono (by simp)
  have g0 := box6 hb' 0
  have g1 := box6 hb' 1
  have g2 := box6 hb' 2
  have g3 := box6 hb' 3
  clear hb hb' H1 HW
  go_wp2_with fail
  go_region_with (first
    | (go_at_call 21; ((with_reducible refine (H2.out _).mono ?_); rintro e w2 ⟨rfl, h2⟩; have HB2 := Lib.hid (HB.out.trans (h2.mono HB.out.size)); clear h2))
    | (go_at_call 22; ((with_reducible refine (H3.out _ HB2.out).mono ?_); rintro e w3 ⟨rfl, h3⟩; have HB3 := Lib.hid h3; clear h3)))
  go_wp2
  go_ret
  exact ⟨rfl, HB3.out⟩
end Go.Proofs.Ytimgdkafennohaa.Gr
namespace Go.Proofs.Ytimgdkafennohaa.Gr
open Go.ChangeShapes Go.WideShapes Go.ChangeAt Go.RowKit Base Ro F Dl Ln
theorem boxes (w : World) (f t k l : Int) : (w.alloc (.cells #[.int .i64 f, .int .i64 t, .int .i64 k, .int .i64 l] 32)).cell? ⟨w.heap.size, 0, none⟩ = some (.int .i64 f) ∧ (w.alloc (.cells #[.int .i64 f, .int .i64 t, .int .i64 k, .int .i64 l] 32)).cell? ⟨w.heap.size, 1, none⟩ = some (.int .i64 t) ∧ (w.alloc (.cells #[.int .i64 f, .int .i64 t, .int .i64 k, .int .i64 l] 32)).cell? ⟨w.heap.size, 2, none⟩ = some (.int .i64 k) ∧ (w.alloc (.cells #[.int .i64 f, .int .i64 t, .int .i64 k, .int .i64 l] 32)).cell? ⟨w.heap.size, 3, none⟩ = some (.int .i64 l) :=
  ⟨box_cell w _ _ 0, box_cell w _ _ 1, box_cell w _ _ 2, box_cell w _ _ 3⟩
set_option maxHeartbeats 4000000 in
set_option maxRecDepth 100000 in
theorem has_any {w : World} {B b n : Nat} {xs : List Nat} {nbs : Bool → Nat} {Vs : Bool → Nat → Value} {cnt : Bool → Nat → Nat → Nat → Int} (h : GS w B b n xs nbs Vs cnt) (hn : n ≤ 4096) {f t k l : Nat} (hr : rightA n f t k l) :
    Calls Try.prog 9 #[.pointer (some ⟨b, 0, none⟩), .agg #[.int .i64 (f : Int), .int .i64 (t : Int), .int .i64 (k : Int), .int .i64 (l : Int)]] w (HeldP (.bool (decide (numN f t k l ∈ xs))) w) := by
  have hws : ∀ o, Below w.heap.size w ((w.alloc o).drew) := fun o => below_drewN ((Below.refl _ _).alloc (Nat.le_refl _) o) 1
  have H1 := Lib.hid (isRight_any (h.below (hws (.cells #[.int .i64 (f : Int), .int .i64 (t : Int), .int .i64 (k : Int), .int .i64 (l : Int)] 32))).v (f : Int) (t : Int) (k : Int) (l : Int))
  rw [decide_eq_true hr] at H1
  unfold rightA at hr
  have H2 : Hid (∀ Y, Calls Try.prog 21 #[.agg #[.int .i64 (f : Int), .int .i64 (t : Int), .int .i64 (k : Int), .int .i64 (l : Int)]] Y fun e w' => e = .returned (.int .u64 (numN f t k l : Nat)) ∧ Below Y.heap.size Y w') := Lib.hid fun Y => by
    rw [numN_int]
    exact number_any f t k l (by omega) (by omega) (by omega) (by omega) (by omega) (by omega) (by omega) (by omega) Y
  obtain ⟨bb, hbb⟩ : ∃ bb, bb = decide (numN f t k l ∈ xs) := ⟨_, rfl⟩
  have H3 : Hid (∀ Y, Below w.heap.size w Y → Calls Try.prog 20 #[.pointer (some ⟨b, 0, none⟩), .int .u64 (numN f t k l : Nat)] Y fun e w' => e = .returned (.bool bb) ∧ Below w.heap.size w w') := Lib.hid fun Y hY =>
    (has_gs (h.below hY) (numN f t k l)).mono fun e w' hh => ⟨by rw [hbb]; exact hh.1, hY.trans (hh.2.mono hY.size)⟩
  rw [← hbb]
  have HW := Lib.hid hws
  obtain ⟨g0, g1, g2, g3⟩ := boxes w f t k l
  clear hbb
  generalize numN f t k l = x at *
  clear h hr hws
  go_enter Try.func9, Try.ntmps9
  go_wp2_with fail
  go_region_with (first
    | (go_at_call 19; ((with_reducible refine (H1.out).mono ?_); rintro e w1 ⟨rfl, hb⟩; have HB := Lib.hid ((HW.out _).trans (hb.mono (HW.out _).size)); have hb' : Below (w.heap.size + 1) ((w.alloc (.cells #[.int .i64 (f : Int), .int .i64 (t : Int), .int .i64 (k : Int), .int .i64 (l : Int)] 32)).drew) w1 := hb.mono (by simp); have j0 := (hb'.cell (p := ⟨w.heap.size, 0, none⟩) (by simp)).trans g0; have j1 := (hb'.cell (p := ⟨w.heap.size, 1, none⟩) (by simp)).trans g1; have j2 := (hb'.cell (p := ⟨w.heap.size, 2, none⟩) (by simp)).trans g2; have j3 := (hb'.cell (p := ⟨w.heap.size, 3, none⟩) (by simp)).trans g3; clear hb hb'))
    | (go_at_call 21; ((with_reducible refine (H2.out _).mono ?_); rintro e w2 ⟨rfl, h2⟩; have HB2 := Lib.hid (HB.out.trans (h2.mono HB.out.size)); clear h2))
    | (go_at_call 20; ((with_reducible refine (H3.out _ HB2.out).mono ?_); rintro e w3 ⟨rfl, h3⟩; have HB3 := Lib.hid h3; clear h3)))
  all_goals go_wp2
  all_goals go_ret
  all_goals exact ⟨rfl, HB3.out⟩
end Go.Proofs.Ytimgdkafennohaa.Gr
namespace Go.Proofs.Ytimgdkafennohaa.Gr
open Go.ChangeShapes Go.WideShapes Go.ChangeAt Go.RowKit Base Ro F Dl Ln
set_option maxHeartbeats 4000000 in
set_option maxRecDepth 100000 in
theorem has_bad {w : World} {m n : Nat} {pv : Value} (h : GrV w pv m n) {f t k l : Int} (hr : ¬ rightA n f t k l) : Calls Try.prog 9 #[pv, .agg #[.int .i64 f, .int .i64 t, .int .i64 k, .int .i64 l]] w (HeldP (.bool false) w) := by
  obtain ⟨D, hD⟩ : ∃ D, D = (w.alloc (.cells #[.int .i64 f, .int .i64 t, .int .i64 k, .int .i64 l] 32)).drew := ⟨_, rfl⟩
  have HBD : Hid (Below w.heap.size w D) := Lib.hid (by rw [hD]; exact below_drewN ((Below.refl _ _).alloc (Nat.le_refl _) _) 1)
  have HC : Hid (∀ Z, Below D.heap.size D Z → Z.cell? ⟨w.heap.size, 0, none⟩ = some (.int .i64 f) ∧ Z.cell? ⟨w.heap.size, 1, none⟩ = some (.int .i64 t) ∧ Z.cell? ⟨w.heap.size, 2, none⟩ = some (.int .i64 k) ∧ Z.cell? ⟨w.heap.size, 3, none⟩ = some (.int .i64 l)) := Lib.hid fun Z hZ => by
    have e : D.heap[w.heap.size]? = some (.cells #[.int .i64 f, .int .i64 t, .int .i64 k, .int .i64 l] 32) := by rw [hD]; exact heap_alloc_at _ _ _ rfl
    have k := (hZ.block _ (heap_lt e)).trans e
    simp [World.cell?, k]
  have H1 := Lib.hid (isRight_any (h.below HBD.out) f t k l)
  rw [decide_eq_false hr] at H1
  clear h hr
  go_enter Try.func9, Try.ntmps9
  go_upto_region 1 with fail
  refine wp_region_held_drew (S := fun Z => Z.cell? ⟨w.heap.size, 0, none⟩ = some (.int .i64 f) ∧ Z.cell? ⟨w.heap.size, 1, none⟩ = some (.int .i64 t) ∧ Z.cell? ⟨w.heap.size, 2, none⟩ = some (.int .i64 k) ∧ Z.cell? ⟨w.heap.size, 3, none⟩ = some (.int .i64 l)) (by kernel_rfl) (hD ▸ HC.out _ (Below.refl _ _)) (fun hHeld0 => ?_)
  rw [← hD] at hHeld0 ⊢
  clear hD
  refine wpAnyH_take (i := 0) (v := ?_) rfl (by kernel_rfl) (by kernel_rfl) (by kernel_rfl) (fun _ _ _ h => h) (Or.inl ⟨by rfl, ?ya0⟩) (by assumption) ?qa0
  case ya0 => (intro wz hSw; (try dsimp only at hSw); go_simp <;> with_reducible rfl)
  try simp only [Act.put, List.getElem_toArray, List.getElem_cons_zero, List.setIfInBounds_toArray, List.set_cons_zero, List.set_cons_succ]
  refine wpAnyH_take (i := 1) (v := ?_) rfl (by kernel_rfl) (by kernel_rfl) (by kernel_rfl) (fun _ _ _ h => h) (Or.inl ⟨by rfl, ?ya1⟩) (by assumption) ?qa1
  case ya1 => (intro wz hSw; (try dsimp only at hSw); go_simp <;> with_reducible rfl)
  try simp only [Act.put, List.getElem_toArray, List.getElem_cons_zero, List.getElem_cons_succ, List.setIfInBounds_toArray, List.set_cons_zero, List.set_cons_succ]
  refine wpAnyH_ready (rs := [2]) (by kernel_rfl) (by simp) ?_
  refine AllReadyH.cons rfl (fun K hK => ?_) AllReadyH.nil
  go_simp
  refine H1.out.mono ?_
  rintro e w1 ⟨rfl, hb⟩
  have HB1 := Lib.hid (HBD.out.trans (hb.mono HBD.out.size))
  have HB2 := Lib.hid hb
  clear hb
  refine hK.out _ _ (HC.out _ HB2.out) (fun hHelda2 => ?_)
  clear hK K
  try simp only [Act.put, List.getElem_toArray, List.getElem_cons_zero, List.getElem_cons_succ, List.setIfInBounds_toArray, List.set_cons_zero, List.set_cons_succ]
  refine wpAnyH_take (i := 3) (v := ?_) rfl (by kernel_rfl) (by kernel_rfl) (by kernel_rfl) (fun _ _ _ h => h) (Or.inl ⟨by rfl, ?ya3⟩) (by assumption) ?qa3
  case ya3 => (intro wz hSw; (try dsimp only at hSw); go_simp <;> with_reducible rfl)
  try simp only [Act.put, List.getElem_toArray, List.getElem_cons_zero, List.getElem_cons_succ, List.setIfInBounds_toArray, List.set_cons_zero, List.set_cons_succ]
  refine wpAnyH_take (i := 4) (v := undef) rfl (by kernel_rfl) (by kernel_rfl) (by kernel_rfl) (fun _ _ _ h => h) (Or.inr ⟨by rfl, rfl⟩) (by assumption) ?_
  try simp only [Act.put, List.getElem_toArray, List.getElem_cons_zero, List.getElem_cons_succ, List.setIfInBounds_toArray, List.set_cons_zero, List.set_cons_succ]
  refine wpAnyH_take (i := 5) (v := undef) rfl (by kernel_rfl) (by kernel_rfl) (by kernel_rfl) (fun _ _ _ h => h) (Or.inr ⟨by rfl, rfl⟩) (by assumption) ?_
  try simp only [Act.put, List.getElem_toArray, List.getElem_cons_zero, List.getElem_cons_succ, List.setIfInBounds_toArray, List.set_cons_zero, List.set_cons_succ]
  refine wpAnyH_take (i := 6) (v := undef) rfl (by kernel_rfl) (by kernel_rfl) (by kernel_rfl) (fun _ _ _ h => h) (Or.inr ⟨by rfl, rfl⟩) (by assumption) ?_
  try simp only [Act.put, List.getElem_toArray, List.getElem_cons_zero, List.getElem_cons_succ, List.setIfInBounds_toArray, List.set_cons_zero, List.set_cons_succ]
  refine wpAnyH_take (i := 7) (v := undef) rfl (by kernel_rfl) (by kernel_rfl) (by kernel_rfl) (fun _ _ _ h => h) (Or.inr ⟨by rfl, rfl⟩) (by assumption) ?_
  try simp only [Act.put, List.getElem_toArray, List.getElem_cons_zero, List.getElem_cons_succ, List.setIfInBounds_toArray, List.set_cons_zero, List.set_cons_succ]
  refine wpAnyH_take (i := 8) (v := undef) rfl (by kernel_rfl) (by kernel_rfl) (by kernel_rfl) (fun _ _ _ h => h) (Or.inr ⟨by rfl, rfl⟩) (by assumption) ?_
  try simp only [Act.put, List.getElem_toArray, List.getElem_cons_zero, List.getElem_cons_succ, List.setIfInBounds_toArray, List.set_cons_zero, List.set_cons_succ]
  refine wpAnyH_take (i := 9) (v := undef) rfl (by kernel_rfl) (by kernel_rfl) (by kernel_rfl) (fun _ _ _ h => h) (Or.inr ⟨by rfl, rfl⟩) (by assumption) ?_
  try simp only [Act.put, List.getElem_toArray, List.getElem_cons_zero, List.getElem_cons_succ, List.setIfInBounds_toArray, List.set_cons_zero, List.set_cons_succ]
  refine wpAnyH_take (i := 10) (v := ?_) rfl (by kernel_rfl) (by kernel_rfl) (by kernel_rfl) (fun _ _ _ h => h) (Or.inl ⟨by rfl, ?ya10⟩) (by assumption) ?qa10
  case ya10 => (intro wz hSw; (try dsimp only at hSw); go_simp <;> with_reducible rfl)
  try simp only [Act.put, List.getElem_toArray, List.getElem_cons_zero, List.getElem_cons_succ, List.setIfInBounds_toArray, List.set_cons_zero, List.set_cons_succ]
  refine wpAnyH_take (i := 11) (v := ?_) rfl (by kernel_rfl) (by kernel_rfl) (by kernel_rfl) (fun _ _ _ h => h) (Or.inl ⟨by rfl, ?ya11⟩) (by assumption) ?qa11
  case ya11 => (intro wz hSw; (try dsimp only at hSw); go_simp <;> with_reducible rfl)
  try simp only [Act.put, List.getElem_toArray, List.getElem_cons_zero, List.getElem_cons_succ, List.setIfInBounds_toArray, List.set_cons_zero, List.set_cons_succ]
  refine wpAnyH_done (by kernel_rfl) ?_ _
  go_wp2
  go_ret
  exact ⟨rfl, HB1.out⟩
end Go.Proofs.Ytimgdkafennohaa.Gr
namespace Go.Proofs.Ytimgdkafennohaa.Gr
open Go.ChangeShapes Go.WideShapes Go.ChangeAt Go.RowKit Base Ro F Dl Ln
/-- What is known of the world in a walk: the digraph's cells, and those of the box that holds the arc. -/
def Cl (w : World) (b g n : Nat) (nb pb : Nat) (f t k l : Int) : Prop :=
  w.cell? ⟨b, 2, none⟩ = some (.slice (some ⟨nb, 0, none⟩) n n) ∧ w.cell? ⟨b, 3, none⟩ = some (.slice (some ⟨pb, 0, none⟩) n n) ∧
  w.cell? ⟨g, 0, none⟩ = some (.int .i64 f) ∧ w.cell? ⟨g, 1, none⟩ = some (.int .i64 t) ∧ w.cell? ⟨g, 2, none⟩ = some (.int .i64 k) ∧ w.cell? ⟨g, 3, none⟩ = some (.int .i64 l)
def boxA (f t k l : Int) : Obj := .cells #[.int .i64 f, .int .i64 t, .int .i64 k, .int .i64 l] 32
theorem GS.cl {w : World} {B b n g : Nat} {xs : List Nat} {nbs : Bool → Nat} {Vs : Bool → Nat → Value} {cnt : Bool → Nat → Nat → Nat → Int} (h : GS w B b n xs nbs Vs cnt) {f t k l : Int} (hg : w.heap[g]? = some (boxA f t k l)) : Cl w b g n (nbs true) (nbs false) f t k l := by
  obtain ⟨V, h1, _⟩ := h.own
  obtain ⟨_, _, h4, h5, _⟩ := gr_cells h1
  refine ⟨h4, h5, ?_, ?_, ?_, ?_⟩ <;> simp [World.cell?, hg, boxA]
/-- A box stays through a change. -/
theorem GS.box {w w' : World} {B b n g : Nat} {xs : List Nat} {nbs : Bool → Nat} {Vs : Bool → Nat → Value} {cnt : Bool → Nat → Nat → Nat → Int} (h : GS w B b n xs nbs Vs cnt) {f t k l : Int} (hg : w.heap[g]? = some (boxA f t k l)) (hf : Fr (AF w B b nbs) w w') : w'.heap[g]? = some (boxA f t k l) := by
  refine (af_box hf hg (fun e => ?_) (fun s e => ?_) ⟨by decide, by decide, by decide⟩).trans hg
  · obtain ⟨V, h1, _⟩ := h.own
    rw [← e, hg] at h1
    simp only [boxA, grB, Option.some.injEq, Obj.cells.injEq] at h1
    exact absurd h1.2.1 (by decide)
  · have := h.row s
    rw [← e, hg] at this
    simp only [boxA, Option.some.injEq, Obj.cells.injEq] at this
    exact absurd this.2.1 (by decide)
/-- A walk's state: a digraph's, the box, and that no more than the digraph was turned since w. -/
def WS (w w' : World) (B b n g : Nat) (xs : List Nat) (nbs : Bool → Nat) (cnt : Bool → Nat → Nat → Nat → Int) (f t k l : Int) : Prop :=
  (∃ Vs, GS w' B b n xs nbs Vs cnt) ∧ w'.heap[g]? = some (boxA f t k l) ∧ Fr (AF w B b nbs) w w'
theorem WS.cl {w w' : World} {B b n g : Nat} {xs : List Nat} {nbs : Bool → Nat} {cnt : Bool → Nat → Nat → Nat → Int} {f t k l : Int} (h : WS w w' B b n g xs nbs cnt f t k l) : Cl w' b g n (nbs true) (nbs false) f t k l := by
  obtain ⟨⟨Vs, h1⟩, h2, _⟩ := h
  exact h1.cl h2
theorem WS.step {w w1 w2 : World} {B b n g : Nat} {xs xs' : List Nat} {nbs : Bool → Nat} {cnt cnt' : Bool → Nat → Nat → Nat → Int} {f t k l : Int} (h : WS w w1 B b n g xs nbs cnt f t k l) (h2 : ∃ Vs, GS w2 B b n xs' nbs Vs cnt') (hf : Fr (AF w1 B b nbs) w1 w2) : WS w w2 B b n g xs' nbs cnt' f t k l := by
  obtain ⟨⟨Vs, h1⟩, h3, h4⟩ := h
  exact ⟨h2, h1.box h3 hf, af_trans h4 hf⟩
theorem WS.below {w w1 w2 : World} {B b n g : Nat} {xs : List Nat} {nbs : Bool → Nat} {cnt : Bool → Nat → Nat → Nat → Int} {f t k l : Int} (h : WS w w1 B b n g xs nbs cnt f t k l) (hb : Below w1.heap.size w1 w2) : WS w w2 B b n g xs nbs cnt f t k l := by
  obtain ⟨Vs, h1⟩ := h.1
  exact h.step ⟨Vs, h1.below hb⟩ (Fr.of_below hb)
/-- The counts behind one more, or one less, arc. -/
def cntA (cnt : Bool → Nat → Nat → Nat → Int) (f t k : Nat) (d : Int) : Bool → Nat → Nat → Nat → Int :=
  updC (updC cnt true f t k (cnt true f t k + d)) false t f k (cnt false t f k + d)
theorem joinW {P : Prop} (J G : World → Prop) (h1 : (∀ u, J u → G u) → P) (h2 : ∀ u, J u → G u) : P := h1 h2
set_option maxHeartbeats 8000000 in
set_option maxRecDepth 100000 in
theorem add_new {w : World} {B b n : Nat} {xs : List Nat} {nbs : Bool → Nat} {Vs : Bool → Nat → Value} {cnt : Bool → Nat → Nat → Nat → Int} (h : GS w B b n xs nbs Vs cnt) (hn : n ≤ 4096) (hl : xs.length < 499) {f t k l : Nat} (hf : f < n) (ht : t < n) (hk1 : 1 ≤ k) (hk : k < 4) (hl2 : l ≤ 1048575) (hx : numN f t k l ∉ xs)
    (hc : ∀ s a c j, cnt s a c j < 1000000) :
    Calls Try.prog 13 #[.pointer (some ⟨b, 0, none⟩), .agg #[.int .i64 (f : Int), .int .i64 (t : Int), .int .i64 (k : Int), .int .i64 (l : Int)]] w fun e w' => e = .returned (.int .i64 0) ∧ (∃ Vs', GS w' B b n (insX xs (numN f t k l)) nbs Vs' (cntA cnt f t k 1)) ∧ Fr (AF w B b nbs) w w' := by
  have hws : ∀ o, Below w.heap.size w (w.alloc o) := fun o => (Below.refl _ _).alloc (Nat.le_refl _) o
  have hw0 : WS w (w.alloc (boxA f t k l)) B b n w.heap.size xs nbs cnt f t k l := ⟨⟨Vs, h.below (hws _)⟩, heap_alloc_at _ _ _ rfl, Fr.of_below (hws _)⟩
  have H1 : Hid (Calls Try.prog 19 #[.pointer (some ⟨b, 0, none⟩), .agg #[.int .i64 (f : Int), .int .i64 (t : Int), .int .i64 (k : Int), .int .i64 (l : Int)]] (w.alloc (boxA f t k l)) fun e w' => e = .returned (.bool true) ∧ Hid (WS w w' B b n w.heap.size xs nbs cnt f t k l) ∧ Cl w' b w.heap.size n (nbs true) (nbs false) f t k l) := Lib.hid (by
    have := isRight_any (h.below (hws (boxA f t k l))).v (f : Int) (t : Int) (k : Int) (l : Int)
    rw [decide_eq_true (show rightA n f t k l by unfold rightA; omega)] at this
    refine this.mono ?_
    rintro e w' ⟨rfl, hb⟩
    have hw := hw0.below hb
    exact ⟨rfl, Lib.hid hw, hw.cl⟩)
  have H2 : Hid (∀ Y, Calls Try.prog 21 #[.agg #[.int .i64 (f : Int), .int .i64 (t : Int), .int .i64 (k : Int), .int .i64 (l : Int)]] Y fun e w' => e = .returned (.int .u64 (numN f t k l : Nat)) ∧ Below Y.heap.size Y w') := Lib.hid fun Y => by
    rw [numN_int]
    exact number_any f t k l (by omega) (by omega) (by omega) (by omega) (by omega) (by omega) (by omega) (by omega) Y
  have H3 : Hid (∀ Y, WS w Y B b n w.heap.size xs nbs cnt f t k l → Calls Try.prog 22 #[.pointer (some ⟨b, 0, none⟩), .int .u64 (numN f t k l : Nat)] Y fun e w' => e = .returned (.bool true) ∧ Hid (WS w w' B b n w.heap.size (insX xs (numN f t k l)) nbs cnt f t k l) ∧ Cl w' b w.heap.size n (nbs true) (nbs false) f t k l) := Lib.hid fun Y hY => by
    obtain ⟨Vs1, h1⟩ := hY.1
    refine (put_gs h1 hx hl (by unfold numN; omega)).mono ?_
    rintro e w' ⟨rfl, h2, h3⟩
    have hw := hY.step ⟨Vs1, h2⟩ h3
    exact ⟨rfl, Lib.hid hw, hw.cl⟩
  generalize numN f t k l = x at *
  have H4 : Hid (∀ Y, WS w Y B b n w.heap.size (insX xs x) nbs cnt f t k l → Calls Try.prog 23 #[.pointer (some ⟨nbs true, f, none⟩), .int .i64 (t : Int), .int .i64 (k : Int), .int .i64 1] Y fun e w' => e = .returned (.tuple #[]) ∧ Hid (WS w w' B b n w.heap.size (insX xs x) nbs (updC cnt true f t k (cnt true f t k + 1)) f t k l) ∧ Cl w' b w.heap.size n (nbs true) (nbs false) f t k l) := Lib.hid fun Y hY => by
    obtain ⟨Vs1, h1⟩ := hY.1
    refine (chg_gs h1 hn true hf ht hk rfl (.inl rfl) (by have := h1.bnd true f t k; have := hc true f t k; omega)).mono ?_
    rintro e w' ⟨rfl, ⟨V', h2⟩, h3⟩
    have hw := hY.step ⟨_, h2⟩ h3
    exact ⟨rfl, Lib.hid hw, hw.cl⟩
  have H5 : Hid (∀ Y, WS w Y B b n w.heap.size (insX xs x) nbs (updC cnt true f t k (cnt true f t k + 1)) f t k l → Calls Try.prog 23 #[.pointer (some ⟨nbs false, t, none⟩), .int .i64 (f : Int), .int .i64 (k : Int), .int .i64 1] Y fun e w' => e = .returned (.tuple #[]) ∧ Hid (WS w w' B b n w.heap.size (insX xs x) nbs (cntA cnt f t k 1) f t k l) ∧ Cl w' b w.heap.size n (nbs true) (nbs false) f t k l) := Lib.hid fun Y hY => by
    obtain ⟨Vs1, h1⟩ := hY.1
    have he : updC cnt true f t k (cnt true f t k + 1) false t f k = cnt false t f k := by simp [updC]
    refine (chg_gs h1 hn false ht hf hk (v := cnt false t f k + 1) (by rw [he]) (.inl rfl) (by have := h1.bnd false t f k; rw [he] at this; have := hc false t f k; omega)).mono ?_
    rintro e w' ⟨rfl, ⟨V', h2⟩, h3⟩
    have hw := hY.step ⟨_, h2⟩ h3
    exact ⟨rfl, Lib.hid hw, hw.cl⟩
  have HE : Hid (∀ Y, WS w Y B b n w.heap.size (insX xs x) nbs (cntA cnt f t k 1) f t k l → (∃ Vs', GS Y B b n (insX xs x) nbs Vs' (cntA cnt f t k 1)) ∧ Fr (AF w B b nbs) w Y) := Lib.hid fun Y hY => ⟨hY.1, hY.2.2⟩
  clear h hws hw0 hx hl hl2 hc hk1
  generalize nbs true = nb at *
  generalize nbs false = pb at *
  unfold boxA at H1
  go_enter Try.func13, Try.ntmps13
  go_wp2_with fail
  refine H1.out.mono ?_
  rintro e w1 ⟨rfl, HW1, hcl⟩
  obtain ⟨b2, b3, g0, g1, g2, g3⟩ := hcl
  clear H1
  go_wp2_with fail
  have HD1 := Lib.hid (HW1.out.below (below_drewN (Below.refl _ _) 1))
  go_region_with (first
    | (go_at_call 21; ((with_reducible refine (H2.out _).mono ?_); rintro e w2 ⟨rfl, h2⟩; have HW2 := Lib.hid (HD1.out.below h2); clear h2))
    | (go_at_call 22; ((with_reducible refine (H3.out _ HW2.out).mono ?_); rintro e w3 ⟨rfl, HW3, hcl3⟩)))
  obtain ⟨d2, d3, k0, k1, k2, k3⟩ := hcl3
  have HD3 : Hid (WS w w3.drew B b n w.heap.size (insX xs x) nbs cnt f t k l) := Lib.hid (HW3.out.below (below_drewN (Below.refl _ _) 1))
  clear b2 b3 g0 g1 g2 g3 HD1 HW2
  go_wp2_with fail
  have hf0 : (0 : Int) ≤ (f : Int) ∧ (f : Int) < (n : Int) := by omega
  have ht0 : (0 : Int) ≤ (t : Int) ∧ (t : Int) < (n : Int) := by omega
  refine joinW (fun u => Hid (WS w u B b n w.heap.size (insX xs x) nbs (updC cnt true f t k (cnt true f t k + 1)) f t k l) ∧ Cl u b w.heap.size n nb pb f t k l) ?G5 (fun HJ => ?f5) ?r5
  case f5 =>
    go_region_with (go_at_call 23; ((with_reducible refine (H4.out _ HD3.out).mono ?_); rintro e w4 ⟨rfl, HW4, hcl4⟩))
    all_goals exact HJ _ ⟨HW4, hcl4⟩
  case r5 =>
    rintro w4 ⟨HW4, hcl4⟩
    obtain ⟨d2', d3', k0', k1', k2', k3'⟩ := hcl4
    have HD4 : Hid (WS w w4.drew B b n w.heap.size (insX xs x) nbs (updC cnt true f t k (cnt true f t k + 1)) f t k l) := Lib.hid (HW4.out.below (below_drewN (Below.refl _ _) 1))
    clear d2 d3 k0 k1 k2 k3 HD3 HW3
    go_wp2_with fail
    refine joinW (fun u => Hid (WS w u B b n w.heap.size (insX xs x) nbs (cntA cnt f t k 1) f t k l) ∧ Cl u b w.heap.size n nb pb f t k l) ?G6 (fun HJ => ?f6) ?r6
    case f6 =>
      go_region_with (go_at_call 23; ((with_reducible refine (H5.out _ HD4.out).mono ?_); rintro e w5 ⟨rfl, HW5, hcl5⟩))
      all_goals exact HJ _ ⟨HW5, hcl5⟩
    case r6 =>
      rintro w5 ⟨HW5, _⟩
      have HEE := Lib.hid (HE.out _ HW5.out)
      go_wp2
      go_ret
      exact ⟨rfl, HEE.out⟩
end Go.Proofs.Ytimgdkafennohaa.Gr
namespace Go.Proofs.Ytimgdkafennohaa.Gr
open Go.ChangeShapes Go.WideShapes Go.ChangeAt Go.RowKit Base Ro F Dl Ln
end Go.Proofs.Ytimgdkafennohaa.Gr
