/-
  Contract of dsg's read. Not a statement of the seat.
-/
import Derived.Test.YtmgkpabagpgilaaDgCm
import Derived.Test.YtmgkpabagpgilaaHead14
namespace Go.Proofs.Ytmgkpabagpgilaa.Dg
open Go.ChangeShapes Go.WideShapes Go.ChangeAt Go.RowKit Base F Tx Hi Go.Sort
/-- What read leaves. -/
def RdP (bc n : Nat) (F' : Edg → Int) (w : World) (e : Ending) (w' : World) : Prop := e = .returned (.tuple #[]) ∧ ∃ n', n' ≤ n + 2 ∧ ME w' bc n' F' ∧ w.grownBy w' (some bc)
theorem gb_alloc {w W : World} {x : Option Nat} (h : w.grownBy W x) (o : Obj) : w.grownBy (W.alloc o) x := h.andThen (World.grownBy_alloc W o none) (fun j hj => by cases hj)
theorem gb_ahead {w W : World} {x : Option Nat} (h : w.drew.grownBy W x) : w.grownBy W x := ⟨h.os, h.tape, h.output, h.size, h.block⟩
set_option maxRecDepth 100000 in
set_option maxHeartbeats 16000000 in
theorem read_any {bc bn n n2 : Nat} {F : Edg → Int} {nx : Int × Int → Option Int} (id : Int) (o : Opr) (w : World) (hc : ME w bc n F) (hx : MN w bn n2 nx) (hne : bn ≠ bc) (hn : n + 2 < maxLen) (hF : ∀ e, 0 ≤ F e ∧ F e ≤ 1000000000000) (ho : Opr.ok o) (hi : i64 id) (hv : ∀ q z, nx q = some z → i64 z) :
    Calls Try.prog 26 #[.map (some bc), .int .i64 id, .agg #[.bool o.rd, .int .i64 o.k, .int .i64 o.t, .int .i64 o.n], .map (some bn)] w (RdP bc n (fun e => F e + (rdW id o e : Nat) + (rdR nx id o e : Nat)) w) := by
  obtain ⟨xr, xk, xt, xn⟩ := o
  obtain ⟨hok, hot, _⟩ := ho
  dsimp only at hok hot
  obtain ⟨X, hX⟩ : ∃ X, X = w.alloc (boxO ⟨xr, xk, xt, xn⟩) := ⟨_, rfl⟩
  have HBC : Hid (bc < w.heap.size ∧ bn < w.heap.size) := Lib.hid ⟨hc.lt, hx.lt⟩
  have HGX : Hid (w.grownBy X none ∧ ME X bc n F ∧ MN X bn n2 nx ∧ X.heap[w.heap.size]? = some (boxO ⟨xr, xk, xt, xn⟩)) := Lib.hid ⟨by rw [hX]; exact World.grownBy_alloc w _ none, by rw [hX]; exact hc.lay rfl _, by rw [hX]; exact hx.lay rfl _, by rw [hX]; exact heap_alloc_at _ _ _ rfl⟩
  have HCE : Hid (∀ Z : World, Z.heap[w.heap.size]? = some (boxO ⟨xr, xk, xt, xn⟩) → Z.cell? ⟨w.heap.size, 2, none⟩ = some (.int .i64 xt) ∧ Z.cell? ⟨w.heap.size, 1, none⟩ = some (.int .i64 xk)) := Lib.hid fun Z h => ⟨(cellsO h).2.1.2.2.1, (cellsO h).2.1.2.1⟩
  have HF := Lib.hid hF
  have HI := Lib.hid hi
  have HK := Lib.hid hok
  have HT := Lib.hid hot
  have HV := Lib.hid hv
  have HNE := Lib.hid hne
  have HNM := Lib.hid hn
  have HRW : Hid (∀ e, rdR nx id ⟨xr, xk, xt, xn⟩ e = match nx (xt, xk) with | some z => if z ≠ id ∧ e = ⟨id, z, 3, xk⟩ then 1 else 0 | none => 0) := Lib.hid fun e => rfl
  have HW0 : Hid (xt = 0 → ∀ e, rdW id ⟨xr, xk, xt, xn⟩ e = 0) := Lib.hid fun h e => by unfold rdW; rw [if_neg (fun h2 => h2.1 h)]
  have HW1 : Hid (xt ≠ 0 → (rdW id ⟨xr, xk, xt, xn⟩ ⟨xt, id, 2, xk⟩ = 1 ∧ ∀ e, e ≠ ⟨xt, id, 2, xk⟩ → rdW id ⟨xr, xk, xt, xn⟩ e = 0)) := Lib.hid fun h => ⟨by unfold rdW wrE; rw [if_pos ⟨h, rfl⟩], fun e he => by unfold rdW; rw [if_neg (fun h2 => he h2.2)]⟩
  have HWL : Hid (∀ e, rdW id ⟨xr, xk, xt, xn⟩ e ≤ 1) := Lib.hid fun e => by unfold rdW; split <;> omega
  obtain ⟨kl, hkl⟩ := Mp.key_a xt xk hot hok
  have HKL := Lib.hid hkl
  have HE : Hid (∀ W n', n' ≤ n + 2 → ME W bc n' (fun e => F e + (rdW id ⟨xr, xk, xt, xn⟩ e : Nat) + (rdR nx id ⟨xr, xk, xt, xn⟩ e : Nat)) → w.grownBy W (some bc) → RdP bc n (fun e => F e + (rdW id ⟨xr, xk, xt, xn⟩ e : Nat) + (rdR nx id ⟨xr, xk, xt, xn⟩ e : Nat)) w (.returned (.tuple #[])) W) := Lib.hid fun W n' h1 h2 h3 => ⟨rfl, n', h1, h2, h3⟩
  generalize RdP bc n (fun e => F e + (rdW id ⟨xr, xk, xt, xn⟩ e : Nat) + (rdR nx id ⟨xr, xk, xt, xn⟩ e : Nat)) w = Post at HE ⊢
  generalize rdR nx id ⟨xr, xk, xt, xn⟩ = RR at HRW HE
  generalize rdW id ⟨xr, xk, xt, xn⟩ = RWf at HW0 HW1 HWL HE
  obtain ⟨_, i1, i2, i3⟩ := (cellsO HGX.out.2.2.2).2.1
  have hwx : w.heap.size < X.heap.size := heap_lt HGX.out.2.2.2
  clear hc hx hne hn hF hi hv hkl hok hot
  unfold boxO at hX
  by_cases h0 : xt = 0
  · have HY : Hid (n ≤ n + 2 ∧ w.grownBy X (some bc) ∧ ME X bc n (fun e => F e + (RWf e : Nat)) ∧ MN X bn n2 nx ∧ X.heap[w.heap.size]? = some (boxO ⟨xr, xk, xt, xn⟩)) := Lib.hid ⟨by omega, HGX.out.1.but _, HGX.out.2.1.ext fun e => by rw [HW0.out h0]; simp, HGX.out.2.2.1, HGX.out.2.2.2⟩
    have h0b : (xt != 0) = false := by simp [h0]
    clear HGX h0
    go_enter Try.func26, Try.ntmps26
    go_upto_region 3 with fail
    rw [← hX]
    clear hX
    obtain ⟨j1, j2⟩ := HCE.out _ HY.out.2.2.2.2
    have HMN := Lib.hid HY.out.2.2.2.1
    cases hnx : nx (xt, xk) with
    | none =>
      have HNX := Lib.hid hnx
      have HFIN := Lib.hid (HE.out _ _ HY.out.1 (HY.out.2.2.1.ext fun e => by rw [HRW.out, hnx]; simp) HY.out.2.1)
      clear HY HE HRW hnx HF HW0 HW1
      go_wp2_with (at_lookup; refine Mp.wp_lookO Mp.keyedA Try.underlying68 Try.underlying3 zeroIn rfl (.tmp 25) (.tmp 30) rfl HMN.out rfl (xt, xk) rfl HKL.out ?_; rw [HNX.out]; dsimp only [Option.getD, Option.isSome])
      exact bodyPost_end (v := .tuple #[]) (results_none rfl _ _ _) rfl HFIN.out
    | some z =>
      have HNX := Lib.hid hnx
      by_cases hz : z = id
      · have hzb : (z != id) = false := by simp [hz]
        have HFIN := Lib.hid (HE.out _ _ HY.out.1 (HY.out.2.2.1.ext fun e => by rw [HRW.out, hnx]; simp [hz]) HY.out.2.1)
        clear HY HE HRW hnx HF HW0 HW1
        go_wp2_with (at_lookup; refine Mp.wp_lookO Mp.keyedA Try.underlying68 Try.underlying3 zeroIn rfl (.tmp 25) (.tmp 30) rfl HMN.out rfl (xt, xk) rfl HKL.out ?_; rw [HNX.out]; dsimp only [Option.getD, Option.isSome])
        exact bodyPost_end (v := .tuple #[]) (results_none rfl _ _ _) rfl HFIN.out
      · have hzb : (z != id) = true := by simp [hz]
        have HVZ := Lib.hid (HV.out _ _ hnx)
        obtain ⟨m, hm⟩ : ∃ m : Int, m = F ⟨id, z, 3, xk⟩ + (RWf ⟨id, z, 3, xk⟩ : Nat) := ⟨_, rfl⟩
        have hmb : 0 ≤ m ∧ m ≤ 1000000000001 := by rw [hm]; have h1 := HF.out ⟨id, z, 3, xk⟩; have h2 := HWL.out ⟨id, z, 3, xk⟩; omega
        have HF2 : Hid ((fun e => F e + (RWf e : Nat) + (RR e : Nat)) ⟨id, z, 3, xk⟩ = m + 1 ∧ ∀ e, e ≠ ⟨id, z, 3, xk⟩ → (fun e => F e + (RWf e : Nat) + (RR e : Nat)) e = F e + (RWf e : Nat)) := Lib.hid ⟨by simp only; rw [HRW.out, hnx, hm]; simp [hz], fun e he => by simp only; rw [HRW.out, hnx]; simp [he]⟩
        obtain ⟨F2, hF2⟩ : ∃ f : Edg → Int, f = fun e => F e + (RWf e : Nat) + (RR e : Nat) := ⟨_, rfl⟩
        rw [← hF2] at HF2 HE
        have hw : IntKind.i64.wrap (m + 1) = m + 1 := by rw [IntKind.wrap_i64] <;> omega
        have HMY := Lib.hid HY.out
        clear HY HRW hnx HF HW0 HW1 hF2
        go_wp2_with (at_lookup; refine Mp.wp_lookO Mp.keyedA Try.underlying68 Try.underlying3 zeroIn rfl (.tmp 25) (.tmp 30) rfl HMN.out rfl (xt, xk) rfl HKL.out ?_; rw [HNX.out]; dsimp only [Option.getD, Option.isSome])
        go_upto_region 5 with fail
        obtain ⟨XD, hXD⟩ : ∃ W, W = X.drew := ⟨_, rfl⟩
        have HMD : Hid (ME XD bc n (fun e => F e + (RWf e : Nat)) ∧ MN XD bn n2 nx ∧ XD.heap[w.heap.size]? = some (boxO ⟨xr, xk, xt, xn⟩)) := Lib.hid (by rw [hXD]; exact ⟨HMY.out.2.2.1.heap rfl, HMY.out.2.2.2.1.heap rfl, HMY.out.2.2.2.2⟩)
        have HGD : Hid (∀ W, XD.grownBy W (some bc) → w.grownBy W (some bc)) := Lib.hid fun W hW => HMY.out.2.1.trans (by rw [hXD] at hW; exact gb_ahead hW)
        have HBX : Hid (BumpE XD bc n F2 ⟨id, z, 3, xk⟩ m) := Lib.hid (by have := me_bump (F1 := F2) HMD.out.1 (by have := HNM.out; omega) (e := ⟨id, z, 3, xk⟩) ⟨HI.out, HVZ.out, by unfold i64; simp, HK.out⟩ (by rw [← hm]; omega) (by simp only [← hm]; first | exact HF2.out.1 | (have := HF2.out.1; simp only at this; omega)) HF2.out.2; rw [← hm] at this; exact this)
        clear hm hmb
        have HCK : Hid (∀ Z, XD.grownBy Z (some bc) → Z.cell? ⟨w.heap.size, 2, none⟩ = some (.int .i64 xt) ∧ Z.cell? ⟨w.heap.size, 1, none⟩ = some (.int .i64 xk)) := Lib.hid fun Z hZ => HCE.out Z ((hZ.block _ (heap_lt HMD.out.2.2) (fun e => by injection e with e; have := HBC.out.1; omega)).trans HMD.out.2.2)
        have H0 := Lib.hid (HCE.out _ HMD.out.2.2)
        clear HMY
        refine wp_region_held_drew (S := fun Z => Z.cell? ⟨w.heap.size, 2, none⟩ = some (.int .i64 xt) ∧ Z.cell? ⟨w.heap.size, 1, none⟩ = some (.int .i64 xk)) (by kernel_rfl) (hXD ▸ H0.out) (fun hHeld0 => ?_)
        rw [← hXD] at hHeld0 ⊢
        clear hXD H0
        refine wpAnyH_take (i := 0) (v := ?_) rfl (by kernel_rfl) (by kernel_rfl) (by kernel_rfl) (fun _ _ _ h => h) (Or.inl ⟨by rfl, ?ys0⟩) (by assumption) ?qs0
        case ys0 => (intro wz hSw; (try dsimp only at hSw); go_simp <;> with_reducible rfl)
        try simp only [Act.put, List.getElem_toArray, List.getElem_cons_zero, List.setIfInBounds_toArray, List.set_cons_zero, List.set_cons_succ]
        refine wpAnyH_take (i := 1) (v := ?_) rfl (by kernel_rfl) (by kernel_rfl) (by kernel_rfl) (fun _ _ _ h => h) (Or.inl ⟨by rfl, ?ys1⟩) (by assumption) ?qs1
        case ys1 => (intro wz hSw; (try dsimp only at hSw); go_simp <;> with_reducible rfl)
        try simp only [Act.put, List.getElem_toArray, List.getElem_cons_zero, List.getElem_cons_succ, List.setIfInBounds_toArray, List.set_cons_zero, List.set_cons_succ]
        refine wpAnyH_take (i := 2) (v := ?_) rfl (by kernel_rfl) (by kernel_rfl) (by kernel_rfl) (fun _ _ _ h => h) (Or.inl ⟨by rfl, ?ys2⟩) (by assumption) ?qs2
        case ys2 => (intro wz hSw; (try dsimp only at hSw); go_simp <;> with_reducible rfl)
        try simp only [Act.put, List.getElem_toArray, List.getElem_cons_zero, List.getElem_cons_succ, List.setIfInBounds_toArray, List.set_cons_zero, List.set_cons_succ]
        refine wpAnyH_take (i := 3) (v := ?_) rfl (by kernel_rfl) (by kernel_rfl) (by kernel_rfl) (fun _ _ _ h => h) (Or.inl ⟨by rfl, ?ys3⟩) (by assumption) ?qs3
        case ys3 => (intro wz hSw; (try dsimp only at hSw); go_simp <;> with_reducible rfl)
        try simp only [Act.put, List.getElem_toArray, List.getElem_cons_zero, List.getElem_cons_succ, List.setIfInBounds_toArray, List.set_cons_zero, List.set_cons_succ]
        refine wpAnyH_take (i := 4) (v := ?_) rfl (by kernel_rfl) (by kernel_rfl) (by kernel_rfl) (fun _ _ _ h => h) (Or.inl ⟨by rfl, ?ys4⟩) (by assumption) ?qs4
        case ys4 => (intro wz hSw; (try dsimp only at hSw); go_simp <;> with_reducible rfl)
        try simp only [Act.put, List.getElem_toArray, List.getElem_cons_zero, List.getElem_cons_succ, List.setIfInBounds_toArray, List.set_cons_zero, List.set_cons_succ]
        refine wpAnyH_take (i := 5) (v := ?_) rfl (by kernel_rfl) (by kernel_rfl) (by kernel_rfl) (fun _ _ _ h => h) (Or.inl ⟨by rfl, ?ys5⟩) (by assumption) ?qs5
        case ys5 => (intro wz hSw; (try dsimp only at hSw); go_simp <;> with_reducible rfl)
        try simp only [Act.put, List.getElem_toArray, List.getElem_cons_zero, List.getElem_cons_succ, List.setIfInBounds_toArray, List.set_cons_zero, List.set_cons_succ]
        obtain ⟨q0, st, w1, r1, r3, r2, w3, r4, r5, r6⟩ := HBX.out
        have HS0 := Lib.hid q0
        have HS1 := Lib.hid r2
        have HR1 := Lib.hid r1
        have HR4 := Lib.hid r4
        have HC1 := Lib.hid (HCK.out w1 r3)
        have HC3 := Lib.hid (HCK.out w3 (World.grownBy.trans r3 r6))
        have HMF := Lib.hid r5
        have HG := Lib.hid (World.grownBy.trans r3 r6)
        clear q0 r1 r2 r3 r4 r5 r6 HBX HCK
        refine wpAnyH_ready (rs := [6, 8]) (by kernel_rfl) (by simp) ?_
        refine AllReadyH.cons rfl (fun K hK => ?ordsA) ?restsA
        case ordsA =>
          refine step_lookup rfl (.tmp 40) (.tmp 45) rfl (b := bc) (key := .agg #[.int .i64 id, .int .i64 z, .int .i64 3, .int .i64 xk]) (by simp [Act.eval]) (by simp [Act.eval]) HS0.out ?_
          refine hK.out _ _ hHeld0 (fun hHeldL => ?_)
          clear hK K
          try simp only [Act.put, List.getElem_toArray, List.getElem_cons_zero, List.getElem_cons_succ, List.setIfInBounds_toArray, List.set_cons_zero, List.set_cons_succ]
          refine wpAnyH_take (i := 7) (v := ?_) rfl (by kernel_rfl) (by kernel_rfl) (by kernel_rfl) (fun _ _ _ h => h) (Or.inl ⟨by rfl, ?ysa7⟩) (by assumption) ?qsa7
          case ysa7 => (intro wz hSw; (try dsimp only at hSw); go_simp <;> with_reducible rfl)
          try simp only [Act.put, List.getElem_toArray, List.getElem_cons_zero, List.getElem_cons_succ, List.setIfInBounds_toArray, List.set_cons_zero, List.set_cons_succ]
          clear hHeldL
          refine wpAnyH_ready (rs := [8]) (by kernel_rfl) (by simp) ?_
          refine AllReadyH.cons rfl (fun K hK => ?_) AllReadyH.nil
          refine Mp.step_entry rfl (.tmp 40) (.tmp 45) rfl (b := bc) (key := .agg #[.int .i64 id, .int .i64 z, .int .i64 3, .int .i64 xk]) (by simp [Act.eval]) (by simp [Act.eval]) HR1.out ?_
          refine hK.out _ _ HC1.out (fun hHeldE => ?_)
          clear hK K
          try simp only [Act.put, List.getElem_toArray, List.getElem_cons_zero, List.getElem_cons_succ, List.setIfInBounds_toArray, List.set_cons_zero, List.set_cons_succ]
          refine wpAnyH_take (i := 9) (v := ?_) rfl (by kernel_rfl) (by kernel_rfl) (by kernel_rfl) (fun _ _ _ h => h) (Or.inl ⟨by rfl, ?ysc9⟩) (by assumption) ?qsc9
          case ysc9 => (intro wz hSw; (try dsimp only at hSw); go_simp <;> with_reducible rfl)
          try simp only [Act.put, List.getElem_toArray, List.getElem_cons_zero, List.getElem_cons_succ, List.setIfInBounds_toArray, List.set_cons_zero, List.set_cons_succ]
          refine wpAnyH_ready (rs := [10]) (by kernel_rfl) (by simp) ?_
          refine AllReadyH.cons rfl (fun K hK => ?_) AllReadyH.nil
          refine Mp.step_entryStore rfl (.tmp 40) (.tmp 49) (.tmp 47) rfl (b := bc) (st := goInt st) (val := .int .i64 (m + 1)) (by simp [Act.eval]) (by simp [Act.eval, goInt]) (by simp [Act.eval]) HR4.out ?_
          refine hK.out _ _ HC3.out (fun hHeldS => ?_)
          clear hK K
          try simp only [Act.put, List.getElem_toArray, List.getElem_cons_zero, List.getElem_cons_succ]
          refine wpAnyH_done (by kernel_rfl) ?_ _
          clear hHeld0 hHeldE hHeldS HC1 HC3 HS0 HS1 HR1 HR4
          have HFIN := Lib.hid (HE.out _ _ (show n + 1 ≤ n + 2 by omega) HMF.out (HGD.out w3 HG.out))
          clear HMF HG HE HGD
          go_wp2_with fail
          exact bodyPost_end (v := .tuple #[]) (results_none rfl _ _ _) rfl HFIN.out
        refine AllReadyH.cons rfl (fun K hK => ?ordsB) AllReadyH.nil
        case ordsB =>
          refine Mp.step_entry rfl (.tmp 40) (.tmp 45) rfl (b := bc) (key := .agg #[.int .i64 id, .int .i64 z, .int .i64 3, .int .i64 xk]) (by simp [Act.eval]) (by simp [Act.eval]) HR1.out ?_
          refine hK.out _ _ HC1.out (fun hHeldE => ?_)
          clear hK K
          try simp only [Act.put, List.getElem_toArray, List.getElem_cons_zero, List.getElem_cons_succ, List.setIfInBounds_toArray, List.set_cons_zero, List.set_cons_succ]
          refine wpAnyH_take (i := 9) (v := ?_) rfl (by kernel_rfl) (by kernel_rfl) (by kernel_rfl) (fun _ _ _ h => h) (Or.inl ⟨by rfl, ?ysd9⟩) (by assumption) ?qsd9
          case ysd9 => (intro wz hSw; (try dsimp only at hSw); go_simp <;> with_reducible rfl)
          try simp only [Act.put, List.getElem_toArray, List.getElem_cons_zero, List.getElem_cons_succ, List.setIfInBounds_toArray, List.set_cons_zero, List.set_cons_succ]
          refine wpAnyH_ready (rs := [6]) (by kernel_rfl) (by simp) ?_
          refine AllReadyH.cons rfl (fun K hK => ?_) AllReadyH.nil
          refine step_lookup rfl (.tmp 40) (.tmp 45) rfl (b := bc) (key := .agg #[.int .i64 id, .int .i64 z, .int .i64 3, .int .i64 xk]) (by simp [Act.eval]) (by simp [Act.eval]) HS1.out ?_
          refine hK.out _ _ hHeldE (fun hHeldL => ?_)
          clear hK K
          try simp only [Act.put, List.getElem_toArray, List.getElem_cons_zero, List.getElem_cons_succ, List.setIfInBounds_toArray, List.set_cons_zero, List.set_cons_succ]
          refine wpAnyH_take (i := 7) (v := ?_) rfl (by kernel_rfl) (by kernel_rfl) (by kernel_rfl) (fun _ _ _ h => h) (Or.inl ⟨by rfl, ?ysb7⟩) (by assumption) ?qsb7
          case ysb7 => (intro wz hSw; (try dsimp only at hSw); go_simp <;> with_reducible rfl)
          try simp only [Act.put, List.getElem_toArray, List.getElem_cons_zero, List.getElem_cons_succ, List.setIfInBounds_toArray, List.set_cons_zero, List.set_cons_succ]
          clear hHeldL
          refine wpAnyH_ready (rs := [10]) (by kernel_rfl) (by simp) ?_
          refine AllReadyH.cons rfl (fun K hK => ?_) AllReadyH.nil
          refine Mp.step_entryStore rfl (.tmp 40) (.tmp 49) (.tmp 47) rfl (b := bc) (st := goInt st) (val := .int .i64 (m + 1)) (by simp [Act.eval]) (by simp [Act.eval, goInt]) (by simp [Act.eval]) HR4.out ?_
          refine hK.out _ _ HC3.out (fun hHeldS => ?_)
          clear hK K
          try simp only [Act.put, List.getElem_toArray, List.getElem_cons_zero, List.getElem_cons_succ]
          refine wpAnyH_done (by kernel_rfl) ?_ _
          clear hHeld0 hHeldE hHeldS HC1 HC3 HS0 HS1 HR1 HR4
          have HFIN := Lib.hid (HE.out _ _ (show n + 1 ≤ n + 2 by omega) HMF.out (HGD.out w3 HG.out))
          clear HMF HG HE HGD
          go_wp2_with fail
          exact bodyPost_end (v := .tuple #[]) (results_none rfl _ _ _) rfl HFIN.out
  · have h0b : (xt != 0) = true := by simp [h0]
    obtain ⟨m1, hm1⟩ : ∃ m : Int, m = F ⟨xt, id, 2, xk⟩ := ⟨_, rfl⟩
    have hmb1 : 0 ≤ m1 ∧ m1 ≤ 1000000000000 := by rw [hm1]; exact HF.out _
    have HF2 : Hid ((fun e => F e + (RWf e : Nat)) ⟨xt, id, 2, xk⟩ = m1 + 1 ∧ ∀ e, e ≠ ⟨xt, id, 2, xk⟩ → (fun e => F e + (RWf e : Nat)) e = F e) := Lib.hid ⟨by simp only; rw [(HW1.out h0).1, hm1]; rfl, fun e he => by simp only; rw [(HW1.out h0).2 e he]; simp⟩
    have hw1 : IntKind.i64.wrap (m1 + 1) = m1 + 1 := by rw [IntKind.wrap_i64] <;> omega
    have HMY : Hid (True ∧ w.grownBy X (some bc) ∧ ME X bc n F ∧ MN X bn n2 nx ∧ X.heap[w.heap.size]? = some (boxO ⟨xr, xk, xt, xn⟩)) := Lib.hid ⟨trivial, HGX.out.1.but _, HGX.out.2⟩
    clear HGX h0
    go_enter Try.func26, Try.ntmps26
    go_upto_region 2 with fail
    rw [← hX]
    clear hX i1 i2 i3 hwx
    obtain ⟨XD, hXD⟩ : ∃ W, W = X.drew := ⟨_, rfl⟩
    have HMD : Hid (ME XD bc n F ∧ MN XD bn n2 nx ∧ XD.heap[w.heap.size]? = some (boxO ⟨xr, xk, xt, xn⟩)) := Lib.hid (by rw [hXD]; exact ⟨HMY.out.2.2.1.heap rfl, HMY.out.2.2.2.1.heap rfl, HMY.out.2.2.2.2⟩)
    have HGD : Hid (∀ W, XD.grownBy W (some bc) → w.grownBy W (some bc)) := Lib.hid fun W hW => HMY.out.2.1.trans (by rw [hXD] at hW; exact gb_ahead hW)
    have HBX : Hid (BumpE XD bc n (fun e => F e + (RWf e : Nat)) ⟨xt, id, 2, xk⟩ m1) := Lib.hid (by have := me_bump (F1 := (fun e => F e + (RWf e : Nat))) HMD.out.1 (by have := HNM.out; omega) (e := ⟨xt, id, 2, xk⟩) ⟨HT.out, HI.out, by unfold i64; simp, HK.out⟩ (by rw [← hm1]; omega) (by simp only [← hm1]; first | exact HF2.out.1 | (have := HF2.out.1; simp only at this; omega)) HF2.out.2; rw [← hm1] at this; exact this)
    clear hm1 hmb1
    have HCK : Hid (∀ Z, XD.grownBy Z (some bc) → Z.cell? ⟨w.heap.size, 2, none⟩ = some (.int .i64 xt) ∧ Z.cell? ⟨w.heap.size, 1, none⟩ = some (.int .i64 xk)) := Lib.hid fun Z hZ => HCE.out Z ((hZ.block _ (heap_lt HMD.out.2.2) (fun e => by injection e with e; have := HBC.out.1; omega)).trans HMD.out.2.2)
    have H0 := Lib.hid (HCE.out _ HMD.out.2.2)
    clear HMY
    refine wp_region_held_drew (S := fun Z => Z.cell? ⟨w.heap.size, 2, none⟩ = some (.int .i64 xt) ∧ Z.cell? ⟨w.heap.size, 1, none⟩ = some (.int .i64 xk)) (by kernel_rfl) (hXD ▸ H0.out) (fun hHeld0 => ?_)
    rw [← hXD] at hHeld0 ⊢
    clear hXD H0
    refine wpAnyH_take (i := 0) (v := ?_) rfl (by kernel_rfl) (by kernel_rfl) (by kernel_rfl) (fun _ _ _ h => h) (Or.inl ⟨by rfl, ?yr0⟩) (by assumption) ?qr0
    case yr0 => (intro wz hSw; (try dsimp only at hSw); go_simp <;> with_reducible rfl)
    try simp only [Act.put, List.getElem_toArray, List.getElem_cons_zero, List.setIfInBounds_toArray, List.set_cons_zero, List.set_cons_succ]
    refine wpAnyH_take (i := 1) (v := ?_) rfl (by kernel_rfl) (by kernel_rfl) (by kernel_rfl) (fun _ _ _ h => h) (Or.inl ⟨by rfl, ?yr1⟩) (by assumption) ?qr1
    case yr1 => (intro wz hSw; (try dsimp only at hSw); go_simp <;> with_reducible rfl)
    try simp only [Act.put, List.getElem_toArray, List.getElem_cons_zero, List.getElem_cons_succ, List.setIfInBounds_toArray, List.set_cons_zero, List.set_cons_succ]
    refine wpAnyH_take (i := 2) (v := ?_) rfl (by kernel_rfl) (by kernel_rfl) (by kernel_rfl) (fun _ _ _ h => h) (Or.inl ⟨by rfl, ?yr2⟩) (by assumption) ?qr2
    case yr2 => (intro wz hSw; (try dsimp only at hSw); go_simp <;> with_reducible rfl)
    try simp only [Act.put, List.getElem_toArray, List.getElem_cons_zero, List.getElem_cons_succ, List.setIfInBounds_toArray, List.set_cons_zero, List.set_cons_succ]
    refine wpAnyH_take (i := 3) (v := ?_) rfl (by kernel_rfl) (by kernel_rfl) (by kernel_rfl) (fun _ _ _ h => h) (Or.inl ⟨by rfl, ?yr3⟩) (by assumption) ?qr3
    case yr3 => (intro wz hSw; (try dsimp only at hSw); go_simp <;> with_reducible rfl)
    try simp only [Act.put, List.getElem_toArray, List.getElem_cons_zero, List.getElem_cons_succ, List.setIfInBounds_toArray, List.set_cons_zero, List.set_cons_succ]
    refine wpAnyH_take (i := 4) (v := ?_) rfl (by kernel_rfl) (by kernel_rfl) (by kernel_rfl) (fun _ _ _ h => h) (Or.inl ⟨by rfl, ?yr4⟩) (by assumption) ?qr4
    case yr4 => (intro wz hSw; (try dsimp only at hSw); go_simp <;> with_reducible rfl)
    try simp only [Act.put, List.getElem_toArray, List.getElem_cons_zero, List.getElem_cons_succ, List.setIfInBounds_toArray, List.set_cons_zero, List.set_cons_succ]
    refine wpAnyH_take (i := 5) (v := ?_) rfl (by kernel_rfl) (by kernel_rfl) (by kernel_rfl) (fun _ _ _ h => h) (Or.inl ⟨by rfl, ?yr5⟩) (by assumption) ?qr5
    case yr5 => (intro wz hSw; (try dsimp only at hSw); go_simp <;> with_reducible rfl)
    try simp only [Act.put, List.getElem_toArray, List.getElem_cons_zero, List.getElem_cons_succ, List.setIfInBounds_toArray, List.set_cons_zero, List.set_cons_succ]
    refine wpAnyH_take (i := 6) (v := ?_) rfl (by kernel_rfl) (by kernel_rfl) (by kernel_rfl) (fun _ _ _ h => h) (Or.inl ⟨by rfl, ?yr6⟩) (by assumption) ?qr6
    case yr6 => (intro wz hSw; (try dsimp only at hSw); go_simp <;> with_reducible rfl)
    try simp only [Act.put, List.getElem_toArray, List.getElem_cons_zero, List.getElem_cons_succ, List.setIfInBounds_toArray, List.set_cons_zero, List.set_cons_succ]
    obtain ⟨q0, st, w1, r1, r3, r2, w3, r4, r5, r6⟩ := HBX.out
    have HS0 := Lib.hid q0
    have HS1 := Lib.hid r2
    have HR1 := Lib.hid r1
    have HR4 := Lib.hid r4
    have HC1 := Lib.hid (HCK.out w1 r3)
    have HC3 := Lib.hid (HCK.out w3 (World.grownBy.trans r3 r6))
    have HMF := Lib.hid r5
    have HG := Lib.hid (World.grownBy.trans r3 r6)
    clear q0 r1 r2 r3 r4 r5 r6 HBX HCK
    refine wpAnyH_ready (rs := [7, 9]) (by kernel_rfl) (by simp) ?_
    refine AllReadyH.cons rfl (fun K hK => ?ordrA) ?restrA
    case ordrA =>
      refine step_lookup rfl (.tmp 13) (.tmp 19) rfl (b := bc) (key := .agg #[.int .i64 xt, .int .i64 id, .int .i64 2, .int .i64 xk]) (by simp [Act.eval]) (by simp [Act.eval]) HS0.out ?_
      refine hK.out _ _ hHeld0 (fun hHeldL => ?_)
      clear hK K
      try simp only [Act.put, List.getElem_toArray, List.getElem_cons_zero, List.getElem_cons_succ, List.setIfInBounds_toArray, List.set_cons_zero, List.set_cons_succ]
      refine wpAnyH_take (i := 8) (v := ?_) rfl (by kernel_rfl) (by kernel_rfl) (by kernel_rfl) (fun _ _ _ h => h) (Or.inl ⟨by rfl, ?yra8⟩) (by assumption) ?qra8
      case yra8 => (intro wz hSw; (try dsimp only at hSw); go_simp <;> with_reducible rfl)
      try simp only [Act.put, List.getElem_toArray, List.getElem_cons_zero, List.getElem_cons_succ, List.setIfInBounds_toArray, List.set_cons_zero, List.set_cons_succ]
      clear hHeldL
      refine wpAnyH_ready (rs := [9]) (by kernel_rfl) (by simp) ?_
      refine AllReadyH.cons rfl (fun K hK => ?_) AllReadyH.nil
      refine Mp.step_entry rfl (.tmp 13) (.tmp 19) rfl (b := bc) (key := .agg #[.int .i64 xt, .int .i64 id, .int .i64 2, .int .i64 xk]) (by simp [Act.eval]) (by simp [Act.eval]) HR1.out ?_
      refine hK.out _ _ HC1.out (fun hHeldE => ?_)
      clear hK K
      try simp only [Act.put, List.getElem_toArray, List.getElem_cons_zero, List.getElem_cons_succ, List.setIfInBounds_toArray, List.set_cons_zero, List.set_cons_succ]
      refine wpAnyH_take (i := 10) (v := ?_) rfl (by kernel_rfl) (by kernel_rfl) (by kernel_rfl) (fun _ _ _ h => h) (Or.inl ⟨by rfl, ?yrc10⟩) (by assumption) ?qrc10
      case yrc10 => (intro wz hSw; (try dsimp only at hSw); go_simp <;> with_reducible rfl)
      try simp only [Act.put, List.getElem_toArray, List.getElem_cons_zero, List.getElem_cons_succ, List.setIfInBounds_toArray, List.set_cons_zero, List.set_cons_succ]
      refine wpAnyH_ready (rs := [11]) (by kernel_rfl) (by simp) ?_
      refine AllReadyH.cons rfl (fun K hK => ?_) AllReadyH.nil
      refine Mp.step_entryStore rfl (.tmp 13) (.tmp 23) (.tmp 21) rfl (b := bc) (st := goInt st) (val := .int .i64 (m1 + 1)) (by simp [Act.eval]) (by simp [Act.eval, goInt]) (by simp [Act.eval]) HR4.out ?_
      refine hK.out _ _ HC3.out (fun hHeldS => ?_)
      clear hK K
      try simp only [Act.put, List.getElem_toArray, List.getElem_cons_zero, List.getElem_cons_succ]
      refine wpAnyH_done (by kernel_rfl) ?_ _
      clear hHeld0 hHeldE hHeldS HC1 HC3 HS0 HS1 HR1 HR4
      have HY : Hid (n + 1 ≤ n + 2 ∧ w.grownBy w3 (some bc) ∧ ME w3 bc (n + 1) (fun e => F e + (RWf e : Nat)) ∧ MN w3 bn n2 nx ∧ w3.heap[w.heap.size]? = some (boxO ⟨xr, xk, xt, xn⟩)) := Lib.hid ⟨by omega, HGD.out w3 HG.out, HMF.out, HMD.out.2.1.kept HG.out (fun e => by injection e with e; exact HNE.out e), (HG.out.block _ (heap_lt HMD.out.2.2) (fun e => by injection e with e; have := HBC.out.1; omega)).trans HMD.out.2.2⟩
      clear HMF HG HGD HMD HF2 hw1
      obtain ⟨j1, j2⟩ := HCE.out _ HY.out.2.2.2.2
      have HMN := Lib.hid HY.out.2.2.2.1
      cases hnx : nx (xt, xk) with
      | none =>
        have HNX := Lib.hid hnx
        have HFIN := Lib.hid (HE.out _ _ HY.out.1 (HY.out.2.2.1.ext fun e => by rw [HRW.out, hnx]; simp) HY.out.2.1)
        clear HY HE HRW hnx HF HW0 HW1
        go_wp2_with (at_lookup; refine Mp.wp_lookO Mp.keyedA Try.underlying68 Try.underlying3 zeroIn rfl (.tmp 25) (.tmp 30) rfl HMN.out rfl (xt, xk) rfl HKL.out ?_; rw [HNX.out]; dsimp only [Option.getD, Option.isSome])
        exact bodyPost_end (v := .tuple #[]) (results_none rfl _ _ _) rfl HFIN.out
      | some z =>
        have HNX := Lib.hid hnx
        by_cases hz : z = id
        · have hzb : (z != id) = false := by simp [hz]
          have HFIN := Lib.hid (HE.out _ _ HY.out.1 (HY.out.2.2.1.ext fun e => by rw [HRW.out, hnx]; simp [hz]) HY.out.2.1)
          clear HY HE HRW hnx HF HW0 HW1
          go_wp2_with (at_lookup; refine Mp.wp_lookO Mp.keyedA Try.underlying68 Try.underlying3 zeroIn rfl (.tmp 25) (.tmp 30) rfl HMN.out rfl (xt, xk) rfl HKL.out ?_; rw [HNX.out]; dsimp only [Option.getD, Option.isSome])
          exact bodyPost_end (v := .tuple #[]) (results_none rfl _ _ _) rfl HFIN.out
        · have hzb : (z != id) = true := by simp [hz]
          have HVZ := Lib.hid (HV.out _ _ hnx)
          obtain ⟨m, hm⟩ : ∃ m : Int, m = F ⟨id, z, 3, xk⟩ + (RWf ⟨id, z, 3, xk⟩ : Nat) := ⟨_, rfl⟩
          have hmb : 0 ≤ m ∧ m ≤ 1000000000001 := by rw [hm]; have h1 := HF.out ⟨id, z, 3, xk⟩; have h2 := HWL.out ⟨id, z, 3, xk⟩; omega
          have HF2 : Hid ((fun e => F e + (RWf e : Nat) + (RR e : Nat)) ⟨id, z, 3, xk⟩ = m + 1 ∧ ∀ e, e ≠ ⟨id, z, 3, xk⟩ → (fun e => F e + (RWf e : Nat) + (RR e : Nat)) e = F e + (RWf e : Nat)) := Lib.hid ⟨by simp only; rw [HRW.out, hnx, hm]; simp [hz], fun e he => by simp only; rw [HRW.out, hnx]; simp [he]⟩
          obtain ⟨F2, hF2⟩ : ∃ f : Edg → Int, f = fun e => F e + (RWf e : Nat) + (RR e : Nat) := ⟨_, rfl⟩
          rw [← hF2] at HF2 HE
          have hw : IntKind.i64.wrap (m + 1) = m + 1 := by rw [IntKind.wrap_i64] <;> omega
          have HMY := Lib.hid HY.out
          clear HY HRW hnx HF HW0 HW1 hF2
          go_wp2_with (at_lookup; refine Mp.wp_lookO Mp.keyedA Try.underlying68 Try.underlying3 zeroIn rfl (.tmp 25) (.tmp 30) rfl HMN.out rfl (xt, xk) rfl HKL.out ?_; rw [HNX.out]; dsimp only [Option.getD, Option.isSome])
          go_upto_region 5 with fail
          obtain ⟨XD, hXD⟩ : ∃ W, W = w3.drew := ⟨_, rfl⟩
          have HMD : Hid (ME XD bc (n + 1) (fun e => F e + (RWf e : Nat)) ∧ MN XD bn n2 nx ∧ XD.heap[w.heap.size]? = some (boxO ⟨xr, xk, xt, xn⟩)) := Lib.hid (by rw [hXD]; exact ⟨HMY.out.2.2.1.heap rfl, HMY.out.2.2.2.1.heap rfl, HMY.out.2.2.2.2⟩)
          have HGD : Hid (∀ W, XD.grownBy W (some bc) → w.grownBy W (some bc)) := Lib.hid fun W hW => HMY.out.2.1.trans (by rw [hXD] at hW; exact gb_ahead hW)
          have HBX : Hid (BumpE XD bc (n + 1) F2 ⟨id, z, 3, xk⟩ m) := Lib.hid (by have := me_bump (F1 := F2) HMD.out.1 (by have := HNM.out; omega) (e := ⟨id, z, 3, xk⟩) ⟨HI.out, HVZ.out, by unfold i64; simp, HK.out⟩ (by rw [← hm]; omega) (by simp only [← hm]; first | exact HF2.out.1 | (have := HF2.out.1; simp only at this; omega)) HF2.out.2; rw [← hm] at this; exact this)
          clear hm hmb
          have HCK : Hid (∀ Z, XD.grownBy Z (some bc) → Z.cell? ⟨w.heap.size, 2, none⟩ = some (.int .i64 xt) ∧ Z.cell? ⟨w.heap.size, 1, none⟩ = some (.int .i64 xk)) := Lib.hid fun Z hZ => HCE.out Z ((hZ.block _ (heap_lt HMD.out.2.2) (fun e => by injection e with e; have := HBC.out.1; omega)).trans HMD.out.2.2)
          have H0 := Lib.hid (HCE.out _ HMD.out.2.2)
          clear HMY
          refine wp_region_held_drew (S := fun Z => Z.cell? ⟨w.heap.size, 2, none⟩ = some (.int .i64 xt) ∧ Z.cell? ⟨w.heap.size, 1, none⟩ = some (.int .i64 xk)) (by kernel_rfl) (hXD ▸ H0.out) (fun hHeld0 => ?_)
          rw [← hXD] at hHeld0 ⊢
          clear hXD H0
          refine wpAnyH_take (i := 0) (v := ?_) rfl (by kernel_rfl) (by kernel_rfl) (by kernel_rfl) (fun _ _ _ h => h) (Or.inl ⟨by rfl, ?ytA0⟩) (by assumption) ?qtA0
          case ytA0 => (intro wz hSw; (try dsimp only at hSw); go_simp <;> with_reducible rfl)
          try simp only [Act.put, List.getElem_toArray, List.getElem_cons_zero, List.setIfInBounds_toArray, List.set_cons_zero, List.set_cons_succ]
          refine wpAnyH_take (i := 1) (v := ?_) rfl (by kernel_rfl) (by kernel_rfl) (by kernel_rfl) (fun _ _ _ h => h) (Or.inl ⟨by rfl, ?ytA1⟩) (by assumption) ?qtA1
          case ytA1 => (intro wz hSw; (try dsimp only at hSw); go_simp <;> with_reducible rfl)
          try simp only [Act.put, List.getElem_toArray, List.getElem_cons_zero, List.getElem_cons_succ, List.setIfInBounds_toArray, List.set_cons_zero, List.set_cons_succ]
          refine wpAnyH_take (i := 2) (v := ?_) rfl (by kernel_rfl) (by kernel_rfl) (by kernel_rfl) (fun _ _ _ h => h) (Or.inl ⟨by rfl, ?ytA2⟩) (by assumption) ?qtA2
          case ytA2 => (intro wz hSw; (try dsimp only at hSw); go_simp <;> with_reducible rfl)
          try simp only [Act.put, List.getElem_toArray, List.getElem_cons_zero, List.getElem_cons_succ, List.setIfInBounds_toArray, List.set_cons_zero, List.set_cons_succ]
          refine wpAnyH_take (i := 3) (v := ?_) rfl (by kernel_rfl) (by kernel_rfl) (by kernel_rfl) (fun _ _ _ h => h) (Or.inl ⟨by rfl, ?ytA3⟩) (by assumption) ?qtA3
          case ytA3 => (intro wz hSw; (try dsimp only at hSw); go_simp <;> with_reducible rfl)
          try simp only [Act.put, List.getElem_toArray, List.getElem_cons_zero, List.getElem_cons_succ, List.setIfInBounds_toArray, List.set_cons_zero, List.set_cons_succ]
          refine wpAnyH_take (i := 4) (v := ?_) rfl (by kernel_rfl) (by kernel_rfl) (by kernel_rfl) (fun _ _ _ h => h) (Or.inl ⟨by rfl, ?ytA4⟩) (by assumption) ?qtA4
          case ytA4 => (intro wz hSw; (try dsimp only at hSw); go_simp <;> with_reducible rfl)
          try simp only [Act.put, List.getElem_toArray, List.getElem_cons_zero, List.getElem_cons_succ, List.setIfInBounds_toArray, List.set_cons_zero, List.set_cons_succ]
          refine wpAnyH_take (i := 5) (v := ?_) rfl (by kernel_rfl) (by kernel_rfl) (by kernel_rfl) (fun _ _ _ h => h) (Or.inl ⟨by rfl, ?ytA5⟩) (by assumption) ?qtA5
          case ytA5 => (intro wz hSw; (try dsimp only at hSw); go_simp <;> with_reducible rfl)
          try simp only [Act.put, List.getElem_toArray, List.getElem_cons_zero, List.getElem_cons_succ, List.setIfInBounds_toArray, List.set_cons_zero, List.set_cons_succ]
          obtain ⟨q0, st, w1, r1, r3, r2, w3, r4, r5, r6⟩ := HBX.out
          have HS0 := Lib.hid q0
          have HS1 := Lib.hid r2
          have HR1 := Lib.hid r1
          have HR4 := Lib.hid r4
          have HC1 := Lib.hid (HCK.out w1 r3)
          have HC3 := Lib.hid (HCK.out w3 (World.grownBy.trans r3 r6))
          have HMF := Lib.hid r5
          have HG := Lib.hid (World.grownBy.trans r3 r6)
          clear q0 r1 r2 r3 r4 r5 r6 HBX HCK
          refine wpAnyH_ready (rs := [6, 8]) (by kernel_rfl) (by simp) ?_
          refine AllReadyH.cons rfl (fun K hK => ?ordtAA) ?resttAA
          case ordtAA =>
            refine step_lookup rfl (.tmp 40) (.tmp 45) rfl (b := bc) (key := .agg #[.int .i64 id, .int .i64 z, .int .i64 3, .int .i64 xk]) (by simp [Act.eval]) (by simp [Act.eval]) HS0.out ?_
            refine hK.out _ _ hHeld0 (fun hHeldL => ?_)
            clear hK K
            try simp only [Act.put, List.getElem_toArray, List.getElem_cons_zero, List.getElem_cons_succ, List.setIfInBounds_toArray, List.set_cons_zero, List.set_cons_succ]
            refine wpAnyH_take (i := 7) (v := ?_) rfl (by kernel_rfl) (by kernel_rfl) (by kernel_rfl) (fun _ _ _ h => h) (Or.inl ⟨by rfl, ?ytAa7⟩) (by assumption) ?qtAa7
            case ytAa7 => (intro wz hSw; (try dsimp only at hSw); go_simp <;> with_reducible rfl)
            try simp only [Act.put, List.getElem_toArray, List.getElem_cons_zero, List.getElem_cons_succ, List.setIfInBounds_toArray, List.set_cons_zero, List.set_cons_succ]
            clear hHeldL
            refine wpAnyH_ready (rs := [8]) (by kernel_rfl) (by simp) ?_
            refine AllReadyH.cons rfl (fun K hK => ?_) AllReadyH.nil
            refine Mp.step_entry rfl (.tmp 40) (.tmp 45) rfl (b := bc) (key := .agg #[.int .i64 id, .int .i64 z, .int .i64 3, .int .i64 xk]) (by simp [Act.eval]) (by simp [Act.eval]) HR1.out ?_
            refine hK.out _ _ HC1.out (fun hHeldE => ?_)
            clear hK K
            try simp only [Act.put, List.getElem_toArray, List.getElem_cons_zero, List.getElem_cons_succ, List.setIfInBounds_toArray, List.set_cons_zero, List.set_cons_succ]
            refine wpAnyH_take (i := 9) (v := ?_) rfl (by kernel_rfl) (by kernel_rfl) (by kernel_rfl) (fun _ _ _ h => h) (Or.inl ⟨by rfl, ?ytAc9⟩) (by assumption) ?qtAc9
            case ytAc9 => (intro wz hSw; (try dsimp only at hSw); go_simp <;> with_reducible rfl)
            try simp only [Act.put, List.getElem_toArray, List.getElem_cons_zero, List.getElem_cons_succ, List.setIfInBounds_toArray, List.set_cons_zero, List.set_cons_succ]
            refine wpAnyH_ready (rs := [10]) (by kernel_rfl) (by simp) ?_
            refine AllReadyH.cons rfl (fun K hK => ?_) AllReadyH.nil
            refine Mp.step_entryStore rfl (.tmp 40) (.tmp 49) (.tmp 47) rfl (b := bc) (st := goInt st) (val := .int .i64 (m + 1)) (by simp [Act.eval]) (by simp [Act.eval, goInt]) (by simp [Act.eval]) HR4.out ?_
            refine hK.out _ _ HC3.out (fun hHeldS => ?_)
            clear hK K
            try simp only [Act.put, List.getElem_toArray, List.getElem_cons_zero, List.getElem_cons_succ]
            refine wpAnyH_done (by kernel_rfl) ?_ _
            clear hHeld0 hHeldE hHeldS HC1 HC3 HS0 HS1 HR1 HR4
            have HFIN := Lib.hid (HE.out _ _ (show n + 1 + 1 ≤ n + 2 by omega) HMF.out (HGD.out w3 HG.out))
            clear HMF HG HE HGD
            go_wp2_with fail
            exact bodyPost_end (v := .tuple #[]) (results_none rfl _ _ _) rfl HFIN.out
          refine AllReadyH.cons rfl (fun K hK => ?ordtAB) AllReadyH.nil
          case ordtAB =>
            refine Mp.step_entry rfl (.tmp 40) (.tmp 45) rfl (b := bc) (key := .agg #[.int .i64 id, .int .i64 z, .int .i64 3, .int .i64 xk]) (by simp [Act.eval]) (by simp [Act.eval]) HR1.out ?_
            refine hK.out _ _ HC1.out (fun hHeldE => ?_)
            clear hK K
            try simp only [Act.put, List.getElem_toArray, List.getElem_cons_zero, List.getElem_cons_succ, List.setIfInBounds_toArray, List.set_cons_zero, List.set_cons_succ]
            refine wpAnyH_take (i := 9) (v := ?_) rfl (by kernel_rfl) (by kernel_rfl) (by kernel_rfl) (fun _ _ _ h => h) (Or.inl ⟨by rfl, ?ytAd9⟩) (by assumption) ?qtAd9
            case ytAd9 => (intro wz hSw; (try dsimp only at hSw); go_simp <;> with_reducible rfl)
            try simp only [Act.put, List.getElem_toArray, List.getElem_cons_zero, List.getElem_cons_succ, List.setIfInBounds_toArray, List.set_cons_zero, List.set_cons_succ]
            refine wpAnyH_ready (rs := [6]) (by kernel_rfl) (by simp) ?_
            refine AllReadyH.cons rfl (fun K hK => ?_) AllReadyH.nil
            refine step_lookup rfl (.tmp 40) (.tmp 45) rfl (b := bc) (key := .agg #[.int .i64 id, .int .i64 z, .int .i64 3, .int .i64 xk]) (by simp [Act.eval]) (by simp [Act.eval]) HS1.out ?_
            refine hK.out _ _ hHeldE (fun hHeldL => ?_)
            clear hK K
            try simp only [Act.put, List.getElem_toArray, List.getElem_cons_zero, List.getElem_cons_succ, List.setIfInBounds_toArray, List.set_cons_zero, List.set_cons_succ]
            refine wpAnyH_take (i := 7) (v := ?_) rfl (by kernel_rfl) (by kernel_rfl) (by kernel_rfl) (fun _ _ _ h => h) (Or.inl ⟨by rfl, ?ytAb7⟩) (by assumption) ?qtAb7
            case ytAb7 => (intro wz hSw; (try dsimp only at hSw); go_simp <;> with_reducible rfl)
            try simp only [Act.put, List.getElem_toArray, List.getElem_cons_zero, List.getElem_cons_succ, List.setIfInBounds_toArray, List.set_cons_zero, List.set_cons_succ]
            clear hHeldL
            refine wpAnyH_ready (rs := [10]) (by kernel_rfl) (by simp) ?_
            refine AllReadyH.cons rfl (fun K hK => ?_) AllReadyH.nil
            refine Mp.step_entryStore rfl (.tmp 40) (.tmp 49) (.tmp 47) rfl (b := bc) (st := goInt st) (val := .int .i64 (m + 1)) (by simp [Act.eval]) (by simp [Act.eval, goInt]) (by simp [Act.eval]) HR4.out ?_
            refine hK.out _ _ HC3.out (fun hHeldS => ?_)
            clear hK K
            try simp only [Act.put, List.getElem_toArray, List.getElem_cons_zero, List.getElem_cons_succ]
            refine wpAnyH_done (by kernel_rfl) ?_ _
            clear hHeld0 hHeldE hHeldS HC1 HC3 HS0 HS1 HR1 HR4
            have HFIN := Lib.hid (HE.out _ _ (show n + 1 + 1 ≤ n + 2 by omega) HMF.out (HGD.out w3 HG.out))
            clear HMF HG HE HGD
            go_wp2_with fail
            exact bodyPost_end (v := .tuple #[]) (results_none rfl _ _ _) rfl HFIN.out
    refine AllReadyH.cons rfl (fun K hK => ?ordrB) AllReadyH.nil
    case ordrB =>
      refine Mp.step_entry rfl (.tmp 13) (.tmp 19) rfl (b := bc) (key := .agg #[.int .i64 xt, .int .i64 id, .int .i64 2, .int .i64 xk]) (by simp [Act.eval]) (by simp [Act.eval]) HR1.out ?_
      refine hK.out _ _ HC1.out (fun hHeldE => ?_)
      clear hK K
      try simp only [Act.put, List.getElem_toArray, List.getElem_cons_zero, List.getElem_cons_succ, List.setIfInBounds_toArray, List.set_cons_zero, List.set_cons_succ]
      refine wpAnyH_take (i := 10) (v := ?_) rfl (by kernel_rfl) (by kernel_rfl) (by kernel_rfl) (fun _ _ _ h => h) (Or.inl ⟨by rfl, ?yrd10⟩) (by assumption) ?qrd10
      case yrd10 => (intro wz hSw; (try dsimp only at hSw); go_simp <;> with_reducible rfl)
      try simp only [Act.put, List.getElem_toArray, List.getElem_cons_zero, List.getElem_cons_succ, List.setIfInBounds_toArray, List.set_cons_zero, List.set_cons_succ]
      refine wpAnyH_ready (rs := [7]) (by kernel_rfl) (by simp) ?_
      refine AllReadyH.cons rfl (fun K hK => ?_) AllReadyH.nil
      refine step_lookup rfl (.tmp 13) (.tmp 19) rfl (b := bc) (key := .agg #[.int .i64 xt, .int .i64 id, .int .i64 2, .int .i64 xk]) (by simp [Act.eval]) (by simp [Act.eval]) HS1.out ?_
      refine hK.out _ _ hHeldE (fun hHeldL => ?_)
      clear hK K
      try simp only [Act.put, List.getElem_toArray, List.getElem_cons_zero, List.getElem_cons_succ, List.setIfInBounds_toArray, List.set_cons_zero, List.set_cons_succ]
      refine wpAnyH_take (i := 8) (v := ?_) rfl (by kernel_rfl) (by kernel_rfl) (by kernel_rfl) (fun _ _ _ h => h) (Or.inl ⟨by rfl, ?yrb8⟩) (by assumption) ?qrb8
      case yrb8 => (intro wz hSw; (try dsimp only at hSw); go_simp <;> with_reducible rfl)
      try simp only [Act.put, List.getElem_toArray, List.getElem_cons_zero, List.getElem_cons_succ, List.setIfInBounds_toArray, List.set_cons_zero, List.set_cons_succ]
      clear hHeldL
      refine wpAnyH_ready (rs := [11]) (by kernel_rfl) (by simp) ?_
      refine AllReadyH.cons rfl (fun K hK => ?_) AllReadyH.nil
      refine Mp.step_entryStore rfl (.tmp 13) (.tmp 23) (.tmp 21) rfl (b := bc) (st := goInt st) (val := .int .i64 (m1 + 1)) (by simp [Act.eval]) (by simp [Act.eval, goInt]) (by simp [Act.eval]) HR4.out ?_
      refine hK.out _ _ HC3.out (fun hHeldS => ?_)
      clear hK K
      try simp only [Act.put, List.getElem_toArray, List.getElem_cons_zero, List.getElem_cons_succ]
      refine wpAnyH_done (by kernel_rfl) ?_ _
      clear hHeld0 hHeldE hHeldS HC1 HC3 HS0 HS1 HR1 HR4
      have HY : Hid (n + 1 ≤ n + 2 ∧ w.grownBy w3 (some bc) ∧ ME w3 bc (n + 1) (fun e => F e + (RWf e : Nat)) ∧ MN w3 bn n2 nx ∧ w3.heap[w.heap.size]? = some (boxO ⟨xr, xk, xt, xn⟩)) := Lib.hid ⟨by omega, HGD.out w3 HG.out, HMF.out, HMD.out.2.1.kept HG.out (fun e => by injection e with e; exact HNE.out e), (HG.out.block _ (heap_lt HMD.out.2.2) (fun e => by injection e with e; have := HBC.out.1; omega)).trans HMD.out.2.2⟩
      clear HMF HG HGD HMD HF2 hw1
      obtain ⟨j1, j2⟩ := HCE.out _ HY.out.2.2.2.2
      have HMN := Lib.hid HY.out.2.2.2.1
      cases hnx : nx (xt, xk) with
      | none =>
        have HNX := Lib.hid hnx
        have HFIN := Lib.hid (HE.out _ _ HY.out.1 (HY.out.2.2.1.ext fun e => by rw [HRW.out, hnx]; simp) HY.out.2.1)
        clear HY HE HRW hnx HF HW0 HW1
        go_wp2_with (at_lookup; refine Mp.wp_lookO Mp.keyedA Try.underlying68 Try.underlying3 zeroIn rfl (.tmp 25) (.tmp 30) rfl HMN.out rfl (xt, xk) rfl HKL.out ?_; rw [HNX.out]; dsimp only [Option.getD, Option.isSome])
        exact bodyPost_end (v := .tuple #[]) (results_none rfl _ _ _) rfl HFIN.out
      | some z =>
        have HNX := Lib.hid hnx
        by_cases hz : z = id
        · have hzb : (z != id) = false := by simp [hz]
          have HFIN := Lib.hid (HE.out _ _ HY.out.1 (HY.out.2.2.1.ext fun e => by rw [HRW.out, hnx]; simp [hz]) HY.out.2.1)
          clear HY HE HRW hnx HF HW0 HW1
          go_wp2_with (at_lookup; refine Mp.wp_lookO Mp.keyedA Try.underlying68 Try.underlying3 zeroIn rfl (.tmp 25) (.tmp 30) rfl HMN.out rfl (xt, xk) rfl HKL.out ?_; rw [HNX.out]; dsimp only [Option.getD, Option.isSome])
          exact bodyPost_end (v := .tuple #[]) (results_none rfl _ _ _) rfl HFIN.out
        · have hzb : (z != id) = true := by simp [hz]
          have HVZ := Lib.hid (HV.out _ _ hnx)
          obtain ⟨m, hm⟩ : ∃ m : Int, m = F ⟨id, z, 3, xk⟩ + (RWf ⟨id, z, 3, xk⟩ : Nat) := ⟨_, rfl⟩
          have hmb : 0 ≤ m ∧ m ≤ 1000000000001 := by rw [hm]; have h1 := HF.out ⟨id, z, 3, xk⟩; have h2 := HWL.out ⟨id, z, 3, xk⟩; omega
          have HF2 : Hid ((fun e => F e + (RWf e : Nat) + (RR e : Nat)) ⟨id, z, 3, xk⟩ = m + 1 ∧ ∀ e, e ≠ ⟨id, z, 3, xk⟩ → (fun e => F e + (RWf e : Nat) + (RR e : Nat)) e = F e + (RWf e : Nat)) := Lib.hid ⟨by simp only; rw [HRW.out, hnx, hm]; simp [hz], fun e he => by simp only; rw [HRW.out, hnx]; simp [he]⟩
          obtain ⟨F2, hF2⟩ : ∃ f : Edg → Int, f = fun e => F e + (RWf e : Nat) + (RR e : Nat) := ⟨_, rfl⟩
          rw [← hF2] at HF2 HE
          have hw : IntKind.i64.wrap (m + 1) = m + 1 := by rw [IntKind.wrap_i64] <;> omega
          have HMY := Lib.hid HY.out
          clear HY HRW hnx HF HW0 HW1 hF2
          go_wp2_with (at_lookup; refine Mp.wp_lookO Mp.keyedA Try.underlying68 Try.underlying3 zeroIn rfl (.tmp 25) (.tmp 30) rfl HMN.out rfl (xt, xk) rfl HKL.out ?_; rw [HNX.out]; dsimp only [Option.getD, Option.isSome])
          go_upto_region 5 with fail
          obtain ⟨XD, hXD⟩ : ∃ W, W = w3.drew := ⟨_, rfl⟩
          have HMD : Hid (ME XD bc (n + 1) (fun e => F e + (RWf e : Nat)) ∧ MN XD bn n2 nx ∧ XD.heap[w.heap.size]? = some (boxO ⟨xr, xk, xt, xn⟩)) := Lib.hid (by rw [hXD]; exact ⟨HMY.out.2.2.1.heap rfl, HMY.out.2.2.2.1.heap rfl, HMY.out.2.2.2.2⟩)
          have HGD : Hid (∀ W, XD.grownBy W (some bc) → w.grownBy W (some bc)) := Lib.hid fun W hW => HMY.out.2.1.trans (by rw [hXD] at hW; exact gb_ahead hW)
          have HBX : Hid (BumpE XD bc (n + 1) F2 ⟨id, z, 3, xk⟩ m) := Lib.hid (by have := me_bump (F1 := F2) HMD.out.1 (by have := HNM.out; omega) (e := ⟨id, z, 3, xk⟩) ⟨HI.out, HVZ.out, by unfold i64; simp, HK.out⟩ (by rw [← hm]; omega) (by simp only [← hm]; first | exact HF2.out.1 | (have := HF2.out.1; simp only at this; omega)) HF2.out.2; rw [← hm] at this; exact this)
          clear hm hmb
          have HCK : Hid (∀ Z, XD.grownBy Z (some bc) → Z.cell? ⟨w.heap.size, 2, none⟩ = some (.int .i64 xt) ∧ Z.cell? ⟨w.heap.size, 1, none⟩ = some (.int .i64 xk)) := Lib.hid fun Z hZ => HCE.out Z ((hZ.block _ (heap_lt HMD.out.2.2) (fun e => by injection e with e; have := HBC.out.1; omega)).trans HMD.out.2.2)
          have H0 := Lib.hid (HCE.out _ HMD.out.2.2)
          clear HMY
          refine wp_region_held_drew (S := fun Z => Z.cell? ⟨w.heap.size, 2, none⟩ = some (.int .i64 xt) ∧ Z.cell? ⟨w.heap.size, 1, none⟩ = some (.int .i64 xk)) (by kernel_rfl) (hXD ▸ H0.out) (fun hHeld0 => ?_)
          rw [← hXD] at hHeld0 ⊢
          clear hXD H0
          refine wpAnyH_take (i := 0) (v := ?_) rfl (by kernel_rfl) (by kernel_rfl) (by kernel_rfl) (fun _ _ _ h => h) (Or.inl ⟨by rfl, ?ytB0⟩) (by assumption) ?qtB0
          case ytB0 => (intro wz hSw; (try dsimp only at hSw); go_simp <;> with_reducible rfl)
          try simp only [Act.put, List.getElem_toArray, List.getElem_cons_zero, List.setIfInBounds_toArray, List.set_cons_zero, List.set_cons_succ]
          refine wpAnyH_take (i := 1) (v := ?_) rfl (by kernel_rfl) (by kernel_rfl) (by kernel_rfl) (fun _ _ _ h => h) (Or.inl ⟨by rfl, ?ytB1⟩) (by assumption) ?qtB1
          case ytB1 => (intro wz hSw; (try dsimp only at hSw); go_simp <;> with_reducible rfl)
          try simp only [Act.put, List.getElem_toArray, List.getElem_cons_zero, List.getElem_cons_succ, List.setIfInBounds_toArray, List.set_cons_zero, List.set_cons_succ]
          refine wpAnyH_take (i := 2) (v := ?_) rfl (by kernel_rfl) (by kernel_rfl) (by kernel_rfl) (fun _ _ _ h => h) (Or.inl ⟨by rfl, ?ytB2⟩) (by assumption) ?qtB2
          case ytB2 => (intro wz hSw; (try dsimp only at hSw); go_simp <;> with_reducible rfl)
          try simp only [Act.put, List.getElem_toArray, List.getElem_cons_zero, List.getElem_cons_succ, List.setIfInBounds_toArray, List.set_cons_zero, List.set_cons_succ]
          refine wpAnyH_take (i := 3) (v := ?_) rfl (by kernel_rfl) (by kernel_rfl) (by kernel_rfl) (fun _ _ _ h => h) (Or.inl ⟨by rfl, ?ytB3⟩) (by assumption) ?qtB3
          case ytB3 => (intro wz hSw; (try dsimp only at hSw); go_simp <;> with_reducible rfl)
          try simp only [Act.put, List.getElem_toArray, List.getElem_cons_zero, List.getElem_cons_succ, List.setIfInBounds_toArray, List.set_cons_zero, List.set_cons_succ]
          refine wpAnyH_take (i := 4) (v := ?_) rfl (by kernel_rfl) (by kernel_rfl) (by kernel_rfl) (fun _ _ _ h => h) (Or.inl ⟨by rfl, ?ytB4⟩) (by assumption) ?qtB4
          case ytB4 => (intro wz hSw; (try dsimp only at hSw); go_simp <;> with_reducible rfl)
          try simp only [Act.put, List.getElem_toArray, List.getElem_cons_zero, List.getElem_cons_succ, List.setIfInBounds_toArray, List.set_cons_zero, List.set_cons_succ]
          refine wpAnyH_take (i := 5) (v := ?_) rfl (by kernel_rfl) (by kernel_rfl) (by kernel_rfl) (fun _ _ _ h => h) (Or.inl ⟨by rfl, ?ytB5⟩) (by assumption) ?qtB5
          case ytB5 => (intro wz hSw; (try dsimp only at hSw); go_simp <;> with_reducible rfl)
          try simp only [Act.put, List.getElem_toArray, List.getElem_cons_zero, List.getElem_cons_succ, List.setIfInBounds_toArray, List.set_cons_zero, List.set_cons_succ]
          obtain ⟨q0, st, w1, r1, r3, r2, w3, r4, r5, r6⟩ := HBX.out
          have HS0 := Lib.hid q0
          have HS1 := Lib.hid r2
          have HR1 := Lib.hid r1
          have HR4 := Lib.hid r4
          have HC1 := Lib.hid (HCK.out w1 r3)
          have HC3 := Lib.hid (HCK.out w3 (World.grownBy.trans r3 r6))
          have HMF := Lib.hid r5
          have HG := Lib.hid (World.grownBy.trans r3 r6)
          clear q0 r1 r2 r3 r4 r5 r6 HBX HCK
          refine wpAnyH_ready (rs := [6, 8]) (by kernel_rfl) (by simp) ?_
          refine AllReadyH.cons rfl (fun K hK => ?ordtBA) ?resttBA
          case ordtBA =>
            refine step_lookup rfl (.tmp 40) (.tmp 45) rfl (b := bc) (key := .agg #[.int .i64 id, .int .i64 z, .int .i64 3, .int .i64 xk]) (by simp [Act.eval]) (by simp [Act.eval]) HS0.out ?_
            refine hK.out _ _ hHeld0 (fun hHeldL => ?_)
            clear hK K
            try simp only [Act.put, List.getElem_toArray, List.getElem_cons_zero, List.getElem_cons_succ, List.setIfInBounds_toArray, List.set_cons_zero, List.set_cons_succ]
            refine wpAnyH_take (i := 7) (v := ?_) rfl (by kernel_rfl) (by kernel_rfl) (by kernel_rfl) (fun _ _ _ h => h) (Or.inl ⟨by rfl, ?ytBa7⟩) (by assumption) ?qtBa7
            case ytBa7 => (intro wz hSw; (try dsimp only at hSw); go_simp <;> with_reducible rfl)
            try simp only [Act.put, List.getElem_toArray, List.getElem_cons_zero, List.getElem_cons_succ, List.setIfInBounds_toArray, List.set_cons_zero, List.set_cons_succ]
            clear hHeldL
            refine wpAnyH_ready (rs := [8]) (by kernel_rfl) (by simp) ?_
            refine AllReadyH.cons rfl (fun K hK => ?_) AllReadyH.nil
            refine Mp.step_entry rfl (.tmp 40) (.tmp 45) rfl (b := bc) (key := .agg #[.int .i64 id, .int .i64 z, .int .i64 3, .int .i64 xk]) (by simp [Act.eval]) (by simp [Act.eval]) HR1.out ?_
            refine hK.out _ _ HC1.out (fun hHeldE => ?_)
            clear hK K
            try simp only [Act.put, List.getElem_toArray, List.getElem_cons_zero, List.getElem_cons_succ, List.setIfInBounds_toArray, List.set_cons_zero, List.set_cons_succ]
            refine wpAnyH_take (i := 9) (v := ?_) rfl (by kernel_rfl) (by kernel_rfl) (by kernel_rfl) (fun _ _ _ h => h) (Or.inl ⟨by rfl, ?ytBc9⟩) (by assumption) ?qtBc9
            case ytBc9 => (intro wz hSw; (try dsimp only at hSw); go_simp <;> with_reducible rfl)
            try simp only [Act.put, List.getElem_toArray, List.getElem_cons_zero, List.getElem_cons_succ, List.setIfInBounds_toArray, List.set_cons_zero, List.set_cons_succ]
            refine wpAnyH_ready (rs := [10]) (by kernel_rfl) (by simp) ?_
            refine AllReadyH.cons rfl (fun K hK => ?_) AllReadyH.nil
            refine Mp.step_entryStore rfl (.tmp 40) (.tmp 49) (.tmp 47) rfl (b := bc) (st := goInt st) (val := .int .i64 (m + 1)) (by simp [Act.eval]) (by simp [Act.eval, goInt]) (by simp [Act.eval]) HR4.out ?_
            refine hK.out _ _ HC3.out (fun hHeldS => ?_)
            clear hK K
            try simp only [Act.put, List.getElem_toArray, List.getElem_cons_zero, List.getElem_cons_succ]
            refine wpAnyH_done (by kernel_rfl) ?_ _
            clear hHeld0 hHeldE hHeldS HC1 HC3 HS0 HS1 HR1 HR4
            have HFIN := Lib.hid (HE.out _ _ (show n + 1 + 1 ≤ n + 2 by omega) HMF.out (HGD.out w3 HG.out))
            clear HMF HG HE HGD
            go_wp2_with fail
            exact bodyPost_end (v := .tuple #[]) (results_none rfl _ _ _) rfl HFIN.out
          refine AllReadyH.cons rfl (fun K hK => ?ordtBB) AllReadyH.nil
          case ordtBB =>
            refine Mp.step_entry rfl (.tmp 40) (.tmp 45) rfl (b := bc) (key := .agg #[.int .i64 id, .int .i64 z, .int .i64 3, .int .i64 xk]) (by simp [Act.eval]) (by simp [Act.eval]) HR1.out ?_
            refine hK.out _ _ HC1.out (fun hHeldE => ?_)
            clear hK K
            try simp only [Act.put, List.getElem_toArray, List.getElem_cons_zero, List.getElem_cons_succ, List.setIfInBounds_toArray, List.set_cons_zero, List.set_cons_succ]
            refine wpAnyH_take (i := 9) (v := ?_) rfl (by kernel_rfl) (by kernel_rfl) (by kernel_rfl) (fun _ _ _ h => h) (Or.inl ⟨by rfl, ?ytBd9⟩) (by assumption) ?qtBd9
            case ytBd9 => (intro wz hSw; (try dsimp only at hSw); go_simp <;> with_reducible rfl)
            try simp only [Act.put, List.getElem_toArray, List.getElem_cons_zero, List.getElem_cons_succ, List.setIfInBounds_toArray, List.set_cons_zero, List.set_cons_succ]
            refine wpAnyH_ready (rs := [6]) (by kernel_rfl) (by simp) ?_
            refine AllReadyH.cons rfl (fun K hK => ?_) AllReadyH.nil
            refine step_lookup rfl (.tmp 40) (.tmp 45) rfl (b := bc) (key := .agg #[.int .i64 id, .int .i64 z, .int .i64 3, .int .i64 xk]) (by simp [Act.eval]) (by simp [Act.eval]) HS1.out ?_
            refine hK.out _ _ hHeldE (fun hHeldL => ?_)
            clear hK K
            try simp only [Act.put, List.getElem_toArray, List.getElem_cons_zero, List.getElem_cons_succ, List.setIfInBounds_toArray, List.set_cons_zero, List.set_cons_succ]
            refine wpAnyH_take (i := 7) (v := ?_) rfl (by kernel_rfl) (by kernel_rfl) (by kernel_rfl) (fun _ _ _ h => h) (Or.inl ⟨by rfl, ?ytBb7⟩) (by assumption) ?qtBb7
            case ytBb7 => (intro wz hSw; (try dsimp only at hSw); go_simp <;> with_reducible rfl)
            try simp only [Act.put, List.getElem_toArray, List.getElem_cons_zero, List.getElem_cons_succ, List.setIfInBounds_toArray, List.set_cons_zero, List.set_cons_succ]
            clear hHeldL
            refine wpAnyH_ready (rs := [10]) (by kernel_rfl) (by simp) ?_
            refine AllReadyH.cons rfl (fun K hK => ?_) AllReadyH.nil
            refine Mp.step_entryStore rfl (.tmp 40) (.tmp 49) (.tmp 47) rfl (b := bc) (st := goInt st) (val := .int .i64 (m + 1)) (by simp [Act.eval]) (by simp [Act.eval, goInt]) (by simp [Act.eval]) HR4.out ?_
            refine hK.out _ _ HC3.out (fun hHeldS => ?_)
            clear hK K
            try simp only [Act.put, List.getElem_toArray, List.getElem_cons_zero, List.getElem_cons_succ]
            refine wpAnyH_done (by kernel_rfl) ?_ _
            clear hHeld0 hHeldE hHeldS HC1 HC3 HS0 HS1 HR1 HR4
            have HFIN := Lib.hid (HE.out _ _ (show n + 1 + 1 ≤ n + 2 by omega) HMF.out (HGD.out w3 HG.out))
            clear HMF HG HE HGD
            go_wp2_with fail
            exact bodyPost_end (v := .tuple #[]) (results_none rfl _ _ _) rfl HFIN.out
end Go.Proofs.Ytmgkpabagpgilaa.Dg
