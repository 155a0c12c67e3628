/-
  Contracts of small functions, several texts laid into one. Not a statement of the seat.
-/
import Derived.Test.YtcmafmdcgkpagaaGreatDgCm
import Derived.Test.YtcmafmdcgkpagaaGreatHead13
import Derived.Test.YtcmafmdcgkpagaaGreatHead21
namespace Go.Proofs.YtcmafmdcgkpagaaGreat.Dg
open Go.ChangeShapes Go.WideShapes Go.ChangeAt Go.RowKit Base F Tx Hi Go.Sort
/-- What read leaves. -/
def RdP (bc n : Nat) (F' : Edg → Int) (w : World) (e : Ending) (w' : World) : Prop := e = .returned (.tuple #[]) ∧ ∃ n', n' ≤ n + 2 ∧ ME w' bc n' F' ∧ w.grownBy w' (some bc)
theorem gb_alloc {w W : World} {x : Option Nat} (h : w.grownBy W x) (o : Obj) : w.grownBy (W.alloc o) x := h.andThen (World.grownBy_alloc W o none) (fun j hj => by cases hj)
theorem gb_ahead {w W : World} {x : Option Nat} (h : w.drew.grownBy W x) : w.grownBy W x := ⟨h.os, h.tape, h.output, h.size, h.block⟩
set_option maxRecDepth 100000 in
set_option maxHeartbeats 16000000 in
theorem read_any {bc bn n n2 : Nat} {F : Edg → Int} {nx : Int × Int → Option Int} (id : Int) (o : Opr) (w : World) (hc : ME w bc n F) (hx : MN w bn n2 nx) (hne : bn ≠ bc) (hn : n + 2 < maxLen) (hF : ∀ e, 0 ≤ F e ∧ F e ≤ 1000000000000) (ho : Opr.ok o) (hi : i64 id) (hv : ∀ q z, nx q = some z → i64 z) :
    Calls Tryz.prog 41 #[.map (some bc), .int .i64 id, .agg #[.bool o.rd, .int .i64 o.k, .int .i64 o.t, .int .i64 o.n], .map (some bn)] w (RdP bc n (fun e => F e + (rdW id o e : Nat) + (rdR nx id o e : Nat)) w) := by
  obtain ⟨xr, xk, xt, xn⟩ := o
  obtain ⟨hok, hot, _⟩ := ho
  dsimp only at hok hot
  obtain ⟨X, hX⟩ : ∃ X, X = w.alloc (boxO ⟨xr, xk, xt, xn⟩) := ⟨_, rfl⟩
  have HBC : Hid (bc < w.heap.size ∧ bn < w.heap.size) := Lib.hid ⟨hc.lt, hx.lt⟩
  have HGX : Hid (w.grownBy X none ∧ ME X bc n F ∧ MN X bn n2 nx ∧ X.heap[w.heap.size]? = some (boxO ⟨xr, xk, xt, xn⟩)) := Lib.hid ⟨by rw [hX]; exact World.grownBy_alloc w _ none, by rw [hX]; exact hc.lay rfl _, by rw [hX]; exact hx.lay rfl _, by rw [hX]; exact heap_alloc_at _ _ _ rfl⟩
  have HCE : Hid (∀ Z : World, Z.heap[w.heap.size]? = some (boxO ⟨xr, xk, xt, xn⟩) → Z.cell? ⟨w.heap.size, 2, none⟩ = some (.int .i64 xt) ∧ Z.cell? ⟨w.heap.size, 1, none⟩ = some (.int .i64 xk)) := Lib.hid fun Z h => ⟨(cellsO h).2.1.2.2.1, (cellsO h).2.1.2.1⟩
  have HF := Lib.hid hF
  have HI := Lib.hid hi
  have HK := Lib.hid hok
  have HT := Lib.hid hot
  have HV := Lib.hid hv
  have HNE := Lib.hid hne
  have HNM := Lib.hid hn
  have HRW : Hid (∀ e, rdR nx id ⟨xr, xk, xt, xn⟩ e = match nx (xt, xk) with | some z => if z ≠ id ∧ e = ⟨id, z, 3, xk⟩ then 1 else 0 | none => 0) := Lib.hid fun e => rfl
  have HW0 : Hid (xt = 0 → ∀ e, rdW id ⟨xr, xk, xt, xn⟩ e = 0) := Lib.hid fun h e => by unfold rdW; rw [if_neg (fun h2 => h2.1 h)]
  have HW1 : Hid (xt ≠ 0 → (rdW id ⟨xr, xk, xt, xn⟩ ⟨xt, id, 2, xk⟩ = 1 ∧ ∀ e, e ≠ ⟨xt, id, 2, xk⟩ → rdW id ⟨xr, xk, xt, xn⟩ e = 0)) := Lib.hid fun h => ⟨by unfold rdW wrE; rw [if_pos ⟨h, rfl⟩], fun e he => by unfold rdW; rw [if_neg (fun h2 => he h2.2)]⟩
  have HWL : Hid (∀ e, rdW id ⟨xr, xk, xt, xn⟩ e ≤ 1) := Lib.hid fun e => by unfold rdW; split <;> omega
  obtain ⟨kl, hkl⟩ := Mp.key_a xt xk hot hok
  have HKL := Lib.hid hkl
  have HE : Hid (∀ W n', n' ≤ n + 2 → ME W bc n' (fun e => F e + (rdW id ⟨xr, xk, xt, xn⟩ e : Nat) + (rdR nx id ⟨xr, xk, xt, xn⟩ e : Nat)) → w.grownBy W (some bc) → RdP bc n (fun e => F e + (rdW id ⟨xr, xk, xt, xn⟩ e : Nat) + (rdR nx id ⟨xr, xk, xt, xn⟩ e : Nat)) w (.returned (.tuple #[])) W) := Lib.hid fun W n' h1 h2 h3 => ⟨rfl, n', h1, h2, h3⟩
  generalize RdP bc n (fun e => F e + (rdW id ⟨xr, xk, xt, xn⟩ e : Nat) + (rdR nx id ⟨xr, xk, xt, xn⟩ e : Nat)) w = Post at HE ⊢
  generalize rdR nx id ⟨xr, xk, xt, xn⟩ = RR at HRW HE
  generalize rdW id ⟨xr, xk, xt, xn⟩ = RWf at HW0 HW1 HWL HE
  obtain ⟨_, i1, i2, i3⟩ := (cellsO HGX.out.2.2.2).2.1
  have hwx : w.heap.size < X.heap.size := heap_lt HGX.out.2.2.2
  clear hc hx hne hn hF hi hv hkl hok hot
  unfold boxO at hX
  by_cases h0 : xt = 0
  · have HY : Hid (n ≤ n + 2 ∧ w.grownBy X (some bc) ∧ ME X bc n (fun e => F e + (RWf e : Nat)) ∧ MN X bn n2 nx ∧ X.heap[w.heap.size]? = some (boxO ⟨xr, xk, xt, xn⟩)) := Lib.hid ⟨by omega, HGX.out.1.but _, HGX.out.2.1.ext fun e => by rw [HW0.out h0]; simp, HGX.out.2.2.1, HGX.out.2.2.2⟩
    have h0b : (xt != 0) = false := by simp [h0]
    clear HGX h0
    go_enter Tryz.func41, Tryz.ntmps41
    go_upto_region 3 with fail
    rw [← hX]
    clear hX
    obtain ⟨j1, j2⟩ := HCE.out _ HY.out.2.2.2.2
    have HMN := Lib.hid HY.out.2.2.2.1
    cases hnx : nx (xt, xk) with
    | none =>
      have HNX := Lib.hid hnx
      have HFIN := Lib.hid (HE.out _ _ HY.out.1 (HY.out.2.2.1.ext fun e => by rw [HRW.out, hnx]; simp) HY.out.2.1)
      clear HY HE HRW hnx HF HW0 HW1
      go_wp2_with (at_lookup; refine Mp.wp_lookO Mp.keyedA Tryz.underlying75 Tryz.underlying3 zeroIn rfl (.tmp 25) (.tmp 30) rfl HMN.out rfl (xt, xk) rfl HKL.out ?_; rw [HNX.out]; dsimp only [Option.getD, Option.isSome])
      exact bodyPost_end (v := .tuple #[]) (results_none rfl _ _ _) rfl HFIN.out
    | some z =>
      have HNX := Lib.hid hnx
      by_cases hz : z = id
      · have hzb : (z != id) = false := by simp [hz]
        have HFIN := Lib.hid (HE.out _ _ HY.out.1 (HY.out.2.2.1.ext fun e => by rw [HRW.out, hnx]; simp [hz]) HY.out.2.1)
        clear HY HE HRW hnx HF HW0 HW1
        go_wp2_with (at_lookup; refine Mp.wp_lookO Mp.keyedA Tryz.underlying75 Tryz.underlying3 zeroIn rfl (.tmp 25) (.tmp 30) rfl HMN.out rfl (xt, xk) rfl HKL.out ?_; rw [HNX.out]; dsimp only [Option.getD, Option.isSome])
        exact bodyPost_end (v := .tuple #[]) (results_none rfl _ _ _) rfl HFIN.out
      · have hzb : (z != id) = true := by simp [hz]
        have HVZ := Lib.hid (HV.out _ _ hnx)
        obtain ⟨m, hm⟩ : ∃ m : Int, m = F ⟨id, z, 3, xk⟩ + (RWf ⟨id, z, 3, xk⟩ : Nat) := ⟨_, rfl⟩
        have hmb : 0 ≤ m ∧ m ≤ 1000000000001 := by rw [hm]; have h1 := HF.out ⟨id, z, 3, xk⟩; have h2 := HWL.out ⟨id, z, 3, xk⟩; omega
        have HF2 : Hid ((fun e => F e + (RWf e : Nat) + (RR e : Nat)) ⟨id, z, 3, xk⟩ = m + 1 ∧ ∀ e, e ≠ ⟨id, z, 3, xk⟩ → (fun e => F e + (RWf e : Nat) + (RR e : Nat)) e = F e + (RWf e : Nat)) := Lib.hid ⟨by simp only; rw [HRW.out, hnx, hm]; simp [hz], fun e he => by simp only; rw [HRW.out, hnx]; simp [he]⟩
        obtain ⟨F2, hF2⟩ : ∃ f : Edg → Int, f = fun e => F e + (RWf e : Nat) + (RR e : Nat) := ⟨_, rfl⟩
        rw [← hF2] at HF2 HE
        have hw : IntKind.i64.wrap (m + 1) = m + 1 := by rw [IntKind.wrap_i64] <;> omega
        have HMY := Lib.hid HY.out
        clear HY HRW hnx HF HW0 HW1 hF2
        go_wp2_with (at_lookup; refine Mp.wp_lookO Mp.keyedA Tryz.underlying75 Tryz.underlying3 zeroIn rfl (.tmp 25) (.tmp 30) rfl HMN.out rfl (xt, xk) rfl HKL.out ?_; rw [HNX.out]; dsimp only [Option.getD, Option.isSome])
        go_upto_region 5 with fail
        obtain ⟨XD, hXD⟩ : ∃ W, W = X.drew := ⟨_, rfl⟩
        have HMD : Hid (ME XD bc n (fun e => F e + (RWf e : Nat)) ∧ MN XD bn n2 nx ∧ XD.heap[w.heap.size]? = some (boxO ⟨xr, xk, xt, xn⟩)) := Lib.hid (by rw [hXD]; exact ⟨HMY.out.2.2.1.heap rfl, HMY.out.2.2.2.1.heap rfl, HMY.out.2.2.2.2⟩)
        have HGD : Hid (∀ W, XD.grownBy W (some bc) → w.grownBy W (some bc)) := Lib.hid fun W hW => HMY.out.2.1.trans (by rw [hXD] at hW; exact gb_ahead hW)
        have HBX : Hid (BumpE XD bc n F2 ⟨id, z, 3, xk⟩ m) := Lib.hid (by have := me_bump (F1 := F2) HMD.out.1 (by have := HNM.out; omega) (e := ⟨id, z, 3, xk⟩) ⟨HI.out, HVZ.out, by unfold i64; simp, HK.out⟩ (by rw [← hm]; omega) (by simp only [← hm]; first | exact HF2.out.1 | (have := HF2.out.1; simp only at this; omega)) HF2.out.2; rw [← hm] at this; exact this)
        clear hm hmb
        have HCK : Hid (∀ Z, XD.grownBy Z (some bc) → Z.cell? ⟨w.heap.size, 2, none⟩ = some (.int .i64 xt) ∧ Z.cell? ⟨w.heap.size, 1, none⟩ = some (.int .i64 xk)) := Lib.hid fun Z hZ => HCE.out Z ((hZ.block _ (heap_lt HMD.out.2.2) (fun e => by injection e with e; have := HBC.out.1; omega)).trans HMD.out.2.2)
        have H0 := Lib.hid (HCE.out _ HMD.out.2.2)
        clear HMY
        refine wp_region_held_drew (S := fun Z => Z.cell? ⟨w.heap.size, 2, none⟩ = some (.int .i64 xt) ∧ Z.cell? ⟨w.heap.size, 1, none⟩ = some (.int .i64 xk)) (by kernel_rfl) (hXD ▸ H0.out) (fun hHeld0 => ?_)
        rw [← hXD] at hHeld0 ⊢
        clear hXD H0
        refine wpAnyH_take (i := 0) (v := ?_) rfl (by kernel_rfl) (by kernel_rfl) (by kernel_rfl) (fun _ _ _ h => h) (Or.inl ⟨by rfl, ?ys0⟩) (by assumption) ?qs0
        case ys0 => (intro wz hSw; (try dsimp only at hSw); go_simp <;> with_reducible rfl)
        try simp only [Act.put, List.getElem_toArray, List.getElem_cons_zero, List.setIfInBounds_toArray, List.set_cons_zero, List.set_cons_succ]
        refine wpAnyH_take (i := 1) (v := ?_) rfl (by kernel_rfl) (by kernel_rfl) (by kernel_rfl) (fun _ _ _ h => h) (Or.inl ⟨by rfl, ?ys1⟩) (by assumption) ?qs1
        case ys1 => (intro wz hSw; (try dsimp only at hSw); go_simp <;> with_reducible rfl)
        try simp only [Act.put, List.getElem_toArray, List.getElem_cons_zero, List.getElem_cons_succ, List.setIfInBounds_toArray, List.set_cons_zero, List.set_cons_succ]
        refine wpAnyH_take (i := 2) (v := ?_) rfl (by kernel_rfl) (by kernel_rfl) (by kernel_rfl) (fun _ _ _ h => h) (Or.inl ⟨by rfl, ?ys2⟩) (by assumption) ?qs2
        case ys2 => (intro wz hSw; (try dsimp only at hSw); go_simp <;> with_reducible rfl)
        try simp only [Act.put, List.getElem_toArray, List.getElem_cons_zero, List.getElem_cons_succ, List.setIfInBounds_toArray, List.set_cons_zero, List.set_cons_succ]
        refine wpAnyH_take (i := 3) (v := ?_) rfl (by kernel_rfl) (by kernel_rfl) (by kernel_rfl) (fun _ _ _ h => h) (Or.inl ⟨by rfl, ?ys3⟩) (by assumption) ?qs3
        case ys3 => (intro wz hSw; (try dsimp only at hSw); go_simp <;> with_reducible rfl)
        try simp only [Act.put, List.getElem_toArray, List.getElem_cons_zero, List.getElem_cons_succ, List.setIfInBounds_toArray, List.set_cons_zero, List.set_cons_succ]
        refine wpAnyH_take (i := 4) (v := ?_) rfl (by kernel_rfl) (by kernel_rfl) (by kernel_rfl) (fun _ _ _ h => h) (Or.inl ⟨by rfl, ?ys4⟩) (by assumption) ?qs4
        case ys4 => (intro wz hSw; (try dsimp only at hSw); go_simp <;> with_reducible rfl)
        try simp only [Act.put, List.getElem_toArray, List.getElem_cons_zero, List.getElem_cons_succ, List.setIfInBounds_toArray, List.set_cons_zero, List.set_cons_succ]
        refine wpAnyH_take (i := 5) (v := ?_) rfl (by kernel_rfl) (by kernel_rfl) (by kernel_rfl) (fun _ _ _ h => h) (Or.inl ⟨by rfl, ?ys5⟩) (by assumption) ?qs5
        case ys5 => (intro wz hSw; (try dsimp only at hSw); go_simp <;> with_reducible rfl)
        try simp only [Act.put, List.getElem_toArray, List.getElem_cons_zero, List.getElem_cons_succ, List.setIfInBounds_toArray, List.set_cons_zero, List.set_cons_succ]
        obtain ⟨q0, st, w1, r1, r3, r2, w3, r4, r5, r6⟩ := HBX.out
        have HS0 := Lib.hid q0
        have HS1 := Lib.hid r2
        have HR1 := Lib.hid r1
        have HR4 := Lib.hid r4
        have HC1 := Lib.hid (HCK.out w1 r3)
        have HC3 := Lib.hid (HCK.out w3 (World.grownBy.trans r3 r6))
        have HMF := Lib.hid r5
        have HG := Lib.hid (World.grownBy.trans r3 r6)
        clear q0 r1 r2 r3 r4 r5 r6 HBX HCK
        refine wpAnyH_ready (rs := [6, 8]) (by kernel_rfl) (by simp) ?_
        refine AllReadyH.cons rfl (fun K hK => ?ordsA) ?restsA
        case ordsA =>
          refine step_lookup rfl (.tmp 40) (.tmp 45) rfl (b := bc) (key := .agg #[.int .i64 id, .int .i64 z, .int .i64 3, .int .i64 xk]) (by simp [Act.eval]) (by simp [Act.eval]) HS0.out ?_
          refine hK.out _ _ hHeld0 (fun hHeldL => ?_)
          clear hK K
          try simp only [Act.put, List.getElem_toArray, List.getElem_cons_zero, List.getElem_cons_succ, List.setIfInBounds_toArray, List.set_cons_zero, List.set_cons_succ]
          refine wpAnyH_take (i := 7) (v := ?_) rfl (by kernel_rfl) (by kernel_rfl) (by kernel_rfl) (fun _ _ _ h => h) (Or.inl ⟨by rfl, ?ysa7⟩) (by assumption) ?qsa7
          case ysa7 => (intro wz hSw; (try dsimp only at hSw); go_simp <;> with_reducible rfl)
          try simp only [Act.put, List.getElem_toArray, List.getElem_cons_zero, List.getElem_cons_succ, List.setIfInBounds_toArray, List.set_cons_zero, List.set_cons_succ]
          clear hHeldL
          refine wpAnyH_ready (rs := [8]) (by kernel_rfl) (by simp) ?_
          refine AllReadyH.cons rfl (fun K hK => ?_) AllReadyH.nil
          refine Mp.step_entry rfl (.tmp 40) (.tmp 45) rfl (b := bc) (key := .agg #[.int .i64 id, .int .i64 z, .int .i64 3, .int .i64 xk]) (by simp [Act.eval]) (by simp [Act.eval]) HR1.out ?_
          refine hK.out _ _ HC1.out (fun hHeldE => ?_)
          clear hK K
          try simp only [Act.put, List.getElem_toArray, List.getElem_cons_zero, List.getElem_cons_succ, List.setIfInBounds_toArray, List.set_cons_zero, List.set_cons_succ]
          refine wpAnyH_take (i := 9) (v := ?_) rfl (by kernel_rfl) (by kernel_rfl) (by kernel_rfl) (fun _ _ _ h => h) (Or.inl ⟨by rfl, ?ysc9⟩) (by assumption) ?qsc9
          case ysc9 => (intro wz hSw; (try dsimp only at hSw); go_simp <;> with_reducible rfl)
          try simp only [Act.put, List.getElem_toArray, List.getElem_cons_zero, List.getElem_cons_succ, List.setIfInBounds_toArray, List.set_cons_zero, List.set_cons_succ]
          refine wpAnyH_ready (rs := [10]) (by kernel_rfl) (by simp) ?_
          refine AllReadyH.cons rfl (fun K hK => ?_) AllReadyH.nil
          refine Mp.step_entryStore rfl (.tmp 40) (.tmp 49) (.tmp 47) rfl (b := bc) (st := goInt st) (val := .int .i64 (m + 1)) (by simp [Act.eval]) (by simp [Act.eval, goInt]) (by simp [Act.eval]) HR4.out ?_
          refine hK.out _ _ HC3.out (fun hHeldS => ?_)
          clear hK K
          try simp only [Act.put, List.getElem_toArray, List.getElem_cons_zero, List.getElem_cons_succ]
          refine wpAnyH_done (by kernel_rfl) ?_ _
          clear hHeld0 hHeldE hHeldS HC1 HC3 HS0 HS1 HR1 HR4
          have HFIN := Lib.hid (HE.out _ _ (show n + 1 ≤ n + 2 by omega) HMF.out (HGD.out w3 HG.out))
          clear HMF HG HE HGD
          go_wp2_with fail
          exact bodyPost_end (v := .tuple #[]) (results_none rfl _ _ _) rfl HFIN.out
        refine AllReadyH.cons rfl (fun K hK => ?ordsB) AllReadyH.nil
        case ordsB =>
          refine Mp.step_entry rfl (.tmp 40) (.tmp 45) rfl (b := bc) (key := .agg #[.int .i64 id, .int .i64 z, .int .i64 3, .int .i64 xk]) (by simp [Act.eval]) (by simp [Act.eval]) HR1.out ?_
          refine hK.out _ _ HC1.out (fun hHeldE => ?_)
          clear hK K
          try simp only [Act.put, List.getElem_toArray, List.getElem_cons_zero, List.getElem_cons_succ, List.setIfInBounds_toArray, List.set_cons_zero, List.set_cons_succ]
          refine wpAnyH_take (i := 9) (v := ?_) rfl (by kernel_rfl) (by kernel_rfl) (by kernel_rfl) (fun _ _ _ h => h) (Or.inl ⟨by rfl, ?ysd9⟩) (by assumption) ?qsd9
          case ysd9 => (intro wz hSw; (try dsimp only at hSw); go_simp <;> with_reducible rfl)
          try simp only [Act.put, List.getElem_toArray, List.getElem_cons_zero, List.getElem_cons_succ, List.setIfInBounds_toArray, List.set_cons_zero, List.set_cons_succ]
          refine wpAnyH_ready (rs := [6]) (by kernel_rfl) (by simp) ?_
          refine AllReadyH.cons rfl (fun K hK => ?_) AllReadyH.nil
          refine step_lookup rfl (.tmp 40) (.tmp 45) rfl (b := bc) (key := .agg #[.int .i64 id, .int .i64 z, .int .i64 3, .int .i64 xk]) (by simp [Act.eval]) (by simp [Act.eval]) HS1.out ?_
          refine hK.out _ _ hHeldE (fun hHeldL => ?_)
          clear hK K
          try simp only [Act.put, List.getElem_toArray, List.getElem_cons_zero, List.getElem_cons_succ, List.setIfInBounds_toArray, List.set_cons_zero, List.set_cons_succ]
          refine wpAnyH_take (i := 7) (v := ?_) rfl (by kernel_rfl) (by kernel_rfl) (by kernel_rfl) (fun _ _ _ h => h) (Or.inl ⟨by rfl, ?ysb7⟩) (by assumption) ?qsb7
          case ysb7 => (intro wz hSw; (try dsimp only at hSw); go_simp <;> with_reducible rfl)
          try simp only [Act.put, List.getElem_toArray, List.getElem_cons_zero, List.getElem_cons_succ, List.setIfInBounds_toArray, List.set_cons_zero, List.set_cons_succ]
          clear hHeldL
          refine wpAnyH_ready (rs := [10]) (by kernel_rfl) (by simp) ?_
          refine AllReadyH.cons rfl (fun K hK => ?_) AllReadyH.nil
          refine Mp.step_entryStore rfl (.tmp 40) (.tmp 49) (.tmp 47) rfl (b := bc) (st := goInt st) (val := .int .i64 (m + 1)) (by simp [Act.eval]) (by simp [Act.eval, goInt]) (by simp [Act.eval]) HR4.out ?_
          refine hK.out _ _ HC3.out (fun hHeldS => ?_)
          clear hK K
          try simp only [Act.put, List.getElem_toArray, List.getElem_cons_zero, List.getElem_cons_succ]
          refine wpAnyH_done (by kernel_rfl) ?_ _
          clear hHeld0 hHeldE hHeldS HC1 HC3 HS0 HS1 HR1 HR4
          have HFIN := Lib.hid (HE.out _ _ (show n + 1 ≤ n + 2 by omega) HMF.out (HGD.out w3 HG.out))
          clear HMF HG HE HGD
          go_wp2_with fail
          exact bodyPost_end (v := .tuple #[]) (results_none rfl _ _ _) rfl HFIN.out
  · have h0b : (xt != 0) = true := by simp [h0]
    obtain ⟨m1, hm1⟩ : ∃ m : Int, m = F ⟨xt, id, 2, xk⟩ := ⟨_, rfl⟩
    have hmb1 : 0 ≤ m1 ∧ m1 ≤ 1000000000000 := by rw [hm1]; exact HF.out _
    have HF2 : Hid ((fun e => F e + (RWf e : Nat)) ⟨xt, id, 2, xk⟩ = m1 + 1 ∧ ∀ e, e ≠ ⟨xt, id, 2, xk⟩ → (fun e => F e + (RWf e : Nat)) e = F e) := Lib.hid ⟨by simp only; rw [(HW1.out h0).1, hm1]; rfl, fun e he => by simp only; rw [(HW1.out h0).2 e he]; simp⟩
    have hw1 : IntKind.i64.wrap (m1 + 1) = m1 + 1 := by rw [IntKind.wrap_i64] <;> omega
    have HMY : Hid (True ∧ w.grownBy X (some bc) ∧ ME X bc n F ∧ MN X bn n2 nx ∧ X.heap[w.heap.size]? = some (boxO ⟨xr, xk, xt, xn⟩)) := Lib.hid ⟨trivial, HGX.out.1.but _, HGX.out.2⟩
    clear HGX h0
    go_enter Tryz.func41, Tryz.ntmps41
    go_upto_region 2 with fail
    rw [← hX]
    clear hX i1 i2 i3 hwx
    obtain ⟨XD, hXD⟩ : ∃ W, W = X.drew := ⟨_, rfl⟩
    have HMD : Hid (ME XD bc n F ∧ MN XD bn n2 nx ∧ XD.heap[w.heap.size]? = some (boxO ⟨xr, xk, xt, xn⟩)) := Lib.hid (by rw [hXD]; exact ⟨HMY.out.2.2.1.heap rfl, HMY.out.2.2.2.1.heap rfl, HMY.out.2.2.2.2⟩)
    have HGD : Hid (∀ W, XD.grownBy W (some bc) → w.grownBy W (some bc)) := Lib.hid fun W hW => HMY.out.2.1.trans (by rw [hXD] at hW; exact gb_ahead hW)
    have HBX : Hid (BumpE XD bc n (fun e => F e + (RWf e : Nat)) ⟨xt, id, 2, xk⟩ m1) := Lib.hid (by have := me_bump (F1 := (fun e => F e + (RWf e : Nat))) HMD.out.1 (by have := HNM.out; omega) (e := ⟨xt, id, 2, xk⟩) ⟨HT.out, HI.out, by unfold i64; simp, HK.out⟩ (by rw [← hm1]; omega) (by simp only [← hm1]; first | exact HF2.out.1 | (have := HF2.out.1; simp only at this; omega)) HF2.out.2; rw [← hm1] at this; exact this)
    clear hm1 hmb1
    have HCK : Hid (∀ Z, XD.grownBy Z (some bc) → Z.cell? ⟨w.heap.size, 2, none⟩ = some (.int .i64 xt) ∧ Z.cell? ⟨w.heap.size, 1, none⟩ = some (.int .i64 xk)) := Lib.hid fun Z hZ => HCE.out Z ((hZ.block _ (heap_lt HMD.out.2.2) (fun e => by injection e with e; have := HBC.out.1; omega)).trans HMD.out.2.2)
    have H0 := Lib.hid (HCE.out _ HMD.out.2.2)
    clear HMY
    refine wp_region_held_drew (S := fun Z => Z.cell? ⟨w.heap.size, 2, none⟩ = some (.int .i64 xt) ∧ Z.cell? ⟨w.heap.size, 1, none⟩ = some (.int .i64 xk)) (by kernel_rfl) (hXD ▸ H0.out) (fun hHeld0 => ?_)
    rw [← hXD] at hHeld0 ⊢
    clear hXD H0
    refine wpAnyH_take (i := 0) (v := ?_) rfl (by kernel_rfl) (by kernel_rfl) (by kernel_rfl) (fun _ _ _ h => h) (Or.inl ⟨by rfl, ?yr0⟩) (by assumption) ?qr0
    case yr0 => (intro wz hSw; (try dsimp only at hSw); go_simp <;> with_reducible rfl)
    try simp only [Act.put, List.getElem_toArray, List.getElem_cons_zero, List.setIfInBounds_toArray, List.set_cons_zero, List.set_cons_succ]
    refine wpAnyH_take (i := 1) (v := ?_) rfl (by kernel_rfl) (by kernel_rfl) (by kernel_rfl) (fun _ _ _ h => h) (Or.inl ⟨by rfl, ?yr1⟩) (by assumption) ?qr1
    case yr1 => (intro wz hSw; (try dsimp only at hSw); go_simp <;> with_reducible rfl)
    try simp only [Act.put, List.getElem_toArray, List.getElem_cons_zero, List.getElem_cons_succ, List.setIfInBounds_toArray, List.set_cons_zero, List.set_cons_succ]
    refine wpAnyH_take (i := 2) (v := ?_) rfl (by kernel_rfl) (by kernel_rfl) (by kernel_rfl) (fun _ _ _ h => h) (Or.inl ⟨by rfl, ?yr2⟩) (by assumption) ?qr2
    case yr2 => (intro wz hSw; (try dsimp only at hSw); go_simp <;> with_reducible rfl)
    try simp only [Act.put, List.getElem_toArray, List.getElem_cons_zero, List.getElem_cons_succ, List.setIfInBounds_toArray, List.set_cons_zero, List.set_cons_succ]
    refine wpAnyH_take (i := 3) (v := ?_) rfl (by kernel_rfl) (by kernel_rfl) (by kernel_rfl) (fun _ _ _ h => h) (Or.inl ⟨by rfl, ?yr3⟩) (by assumption) ?qr3
    case yr3 => (intro wz hSw; (try dsimp only at hSw); go_simp <;> with_reducible rfl)
    try simp only [Act.put, List.getElem_toArray, List.getElem_cons_zero, List.getElem_cons_succ, List.setIfInBounds_toArray, List.set_cons_zero, List.set_cons_succ]
    refine wpAnyH_take (i := 4) (v := ?_) rfl (by kernel_rfl) (by kernel_rfl) (by kernel_rfl) (fun _ _ _ h => h) (Or.inl ⟨by rfl, ?yr4⟩) (by assumption) ?qr4
    case yr4 => (intro wz hSw; (try dsimp only at hSw); go_simp <;> with_reducible rfl)
    try simp only [Act.put, List.getElem_toArray, List.getElem_cons_zero, List.getElem_cons_succ, List.setIfInBounds_toArray, List.set_cons_zero, List.set_cons_succ]
    refine wpAnyH_take (i := 5) (v := ?_) rfl (by kernel_rfl) (by kernel_rfl) (by kernel_rfl) (fun _ _ _ h => h) (Or.inl ⟨by rfl, ?yr5⟩) (by assumption) ?qr5
    case yr5 => (intro wz hSw; (try dsimp only at hSw); go_simp <;> with_reducible rfl)
    try simp only [Act.put, List.getElem_toArray, List.getElem_cons_zero, List.getElem_cons_succ, List.setIfInBounds_toArray, List.set_cons_zero, List.set_cons_succ]
    refine wpAnyH_take (i := 6) (v := ?_) rfl (by kernel_rfl) (by kernel_rfl) (by kernel_rfl) (fun _ _ _ h => h) (Or.inl ⟨by rfl, ?yr6⟩) (by assumption) ?qr6
    case yr6 => (intro wz hSw; (try dsimp only at hSw); go_simp <;> with_reducible rfl)
    try simp only [Act.put, List.getElem_toArray, List.getElem_cons_zero, List.getElem_cons_succ, List.setIfInBounds_toArray, List.set_cons_zero, List.set_cons_succ]
    obtain ⟨q0, st, w1, r1, r3, r2, w3, r4, r5, r6⟩ := HBX.out
    have HS0 := Lib.hid q0
    have HS1 := Lib.hid r2
    have HR1 := Lib.hid r1
    have HR4 := Lib.hid r4
    have HC1 := Lib.hid (HCK.out w1 r3)
    have HC3 := Lib.hid (HCK.out w3 (World.grownBy.trans r3 r6))
    have HMF := Lib.hid r5
    have HG := Lib.hid (World.grownBy.trans r3 r6)
    clear q0 r1 r2 r3 r4 r5 r6 HBX HCK
    refine wpAnyH_ready (rs := [7, 9]) (by kernel_rfl) (by simp) ?_
    refine AllReadyH.cons rfl (fun K hK => ?ordrA) ?restrA
    case ordrA =>
      refine step_lookup rfl (.tmp 13) (.tmp 19) rfl (b := bc) (key := .agg #[.int .i64 xt, .int .i64 id, .int .i64 2, .int .i64 xk]) (by simp [Act.eval]) (by simp [Act.eval]) HS0.out ?_
      refine hK.out _ _ hHeld0 (fun hHeldL => ?_)
      clear hK K
      try simp only [Act.put, List.getElem_toArray, List.getElem_cons_zero, List.getElem_cons_succ, List.setIfInBounds_toArray, List.set_cons_zero, List.set_cons_succ]
      refine wpAnyH_take (i := 8) (v := ?_) rfl (by kernel_rfl) (by kernel_rfl) (by kernel_rfl) (fun _ _ _ h => h) (Or.inl ⟨by rfl, ?yra8⟩) (by assumption) ?qra8
      case yra8 => (intro wz hSw; (try dsimp only at hSw); go_simp <;> with_reducible rfl)
      try simp only [Act.put, List.getElem_toArray, List.getElem_cons_zero, List.getElem_cons_succ, List.setIfInBounds_toArray, List.set_cons_zero, List.set_cons_succ]
      clear hHeldL
      refine wpAnyH_ready (rs := [9]) (by kernel_rfl) (by simp) ?_
      refine AllReadyH.cons rfl (fun K hK => ?_) AllReadyH.nil
      refine Mp.step_entry rfl (.tmp 13) (.tmp 19) rfl (b := bc) (key := .agg #[.int .i64 xt, .int .i64 id, .int .i64 2, .int .i64 xk]) (by simp [Act.eval]) (by simp [Act.eval]) HR1.out ?_
      refine hK.out _ _ HC1.out (fun hHeldE => ?_)
      clear hK K
      try simp only [Act.put, List.getElem_toArray, List.getElem_cons_zero, List.getElem_cons_succ, List.setIfInBounds_toArray, List.set_cons_zero, List.set_cons_succ]
      refine wpAnyH_take (i := 10) (v := ?_) rfl (by kernel_rfl) (by kernel_rfl) (by kernel_rfl) (fun _ _ _ h => h) (Or.inl ⟨by rfl, ?yrc10⟩) (by assumption) ?qrc10
      case yrc10 => (intro wz hSw; (try dsimp only at hSw); go_simp <;> with_reducible rfl)
      try simp only [Act.put, List.getElem_toArray, List.getElem_cons_zero, List.getElem_cons_succ, List.setIfInBounds_toArray, List.set_cons_zero, List.set_cons_succ]
      refine wpAnyH_ready (rs := [11]) (by kernel_rfl) (by simp) ?_
      refine AllReadyH.cons rfl (fun K hK => ?_) AllReadyH.nil
      refine Mp.step_entryStore rfl (.tmp 13) (.tmp 23) (.tmp 21) rfl (b := bc) (st := goInt st) (val := .int .i64 (m1 + 1)) (by simp [Act.eval]) (by simp [Act.eval, goInt]) (by simp [Act.eval]) HR4.out ?_
      refine hK.out _ _ HC3.out (fun hHeldS => ?_)
      clear hK K
      try simp only [Act.put, List.getElem_toArray, List.getElem_cons_zero, List.getElem_cons_succ]
      refine wpAnyH_done (by kernel_rfl) ?_ _
      clear hHeld0 hHeldE hHeldS HC1 HC3 HS0 HS1 HR1 HR4
      have HY : Hid (n + 1 ≤ n + 2 ∧ w.grownBy w3 (some bc) ∧ ME w3 bc (n + 1) (fun e => F e + (RWf e : Nat)) ∧ MN w3 bn n2 nx ∧ w3.heap[w.heap.size]? = some (boxO ⟨xr, xk, xt, xn⟩)) := Lib.hid ⟨by omega, HGD.out w3 HG.out, HMF.out, HMD.out.2.1.kept HG.out (fun e => by injection e with e; exact HNE.out e), (HG.out.block _ (heap_lt HMD.out.2.2) (fun e => by injection e with e; have := HBC.out.1; omega)).trans HMD.out.2.2⟩
      clear HMF HG HGD HMD HF2 hw1
      obtain ⟨j1, j2⟩ := HCE.out _ HY.out.2.2.2.2
      have HMN := Lib.hid HY.out.2.2.2.1
      cases hnx : nx (xt, xk) with
      | none =>
        have HNX := Lib.hid hnx
        have HFIN := Lib.hid (HE.out _ _ HY.out.1 (HY.out.2.2.1.ext fun e => by rw [HRW.out, hnx]; simp) HY.out.2.1)
        clear HY HE HRW hnx HF HW0 HW1
        go_wp2_with (at_lookup; refine Mp.wp_lookO Mp.keyedA Tryz.underlying75 Tryz.underlying3 zeroIn rfl (.tmp 25) (.tmp 30) rfl HMN.out rfl (xt, xk) rfl HKL.out ?_; rw [HNX.out]; dsimp only [Option.getD, Option.isSome])
        exact bodyPost_end (v := .tuple #[]) (results_none rfl _ _ _) rfl HFIN.out
      | some z =>
        have HNX := Lib.hid hnx
        by_cases hz : z = id
        · have hzb : (z != id) = false := by simp [hz]
          have HFIN := Lib.hid (HE.out _ _ HY.out.1 (HY.out.2.2.1.ext fun e => by rw [HRW.out, hnx]; simp [hz]) HY.out.2.1)
          clear HY HE HRW hnx HF HW0 HW1
          go_wp2_with (at_lookup; refine Mp.wp_lookO Mp.keyedA Tryz.underlying75 Tryz.underlying3 zeroIn rfl (.tmp 25) (.tmp 30) rfl HMN.out rfl (xt, xk) rfl HKL.out ?_; rw [HNX.out]; dsimp only [Option.getD, Option.isSome])
          exact bodyPost_end (v := .tuple #[]) (results_none rfl _ _ _) rfl HFIN.out
        · have hzb : (z != id) = true := by simp [hz]
          have HVZ := Lib.hid (HV.out _ _ hnx)
          obtain ⟨m, hm⟩ : ∃ m : Int, m = F ⟨id, z, 3, xk⟩ + (RWf ⟨id, z, 3, xk⟩ : Nat) := ⟨_, rfl⟩
          have hmb : 0 ≤ m ∧ m ≤ 1000000000001 := by rw [hm]; have h1 := HF.out ⟨id, z, 3, xk⟩; have h2 := HWL.out ⟨id, z, 3, xk⟩; omega
          have HF2 : Hid ((fun e => F e + (RWf e : Nat) + (RR e : Nat)) ⟨id, z, 3, xk⟩ = m + 1 ∧ ∀ e, e ≠ ⟨id, z, 3, xk⟩ → (fun e => F e + (RWf e : Nat) + (RR e : Nat)) e = F e + (RWf e : Nat)) := Lib.hid ⟨by simp only; rw [HRW.out, hnx, hm]; simp [hz], fun e he => by simp only; rw [HRW.out, hnx]; simp [he]⟩
          obtain ⟨F2, hF2⟩ : ∃ f : Edg → Int, f = fun e => F e + (RWf e : Nat) + (RR e : Nat) := ⟨_, rfl⟩
          rw [← hF2] at HF2 HE
          have hw : IntKind.i64.wrap (m + 1) = m + 1 := by rw [IntKind.wrap_i64] <;> omega
          have HMY := Lib.hid HY.out
          clear HY HRW hnx HF HW0 HW1 hF2
          go_wp2_with (at_lookup; refine Mp.wp_lookO Mp.keyedA Tryz.underlying75 Tryz.underlying3 zeroIn rfl (.tmp 25) (.tmp 30) rfl HMN.out rfl (xt, xk) rfl HKL.out ?_; rw [HNX.out]; dsimp only [Option.getD, Option.isSome])
          go_upto_region 5 with fail
          obtain ⟨XD, hXD⟩ : ∃ W, W = w3.drew := ⟨_, rfl⟩
          have HMD : Hid (ME XD bc (n + 1) (fun e => F e + (RWf e : Nat)) ∧ MN XD bn n2 nx ∧ XD.heap[w.heap.size]? = some (boxO ⟨xr, xk, xt, xn⟩)) := Lib.hid (by rw [hXD]; exact ⟨HMY.out.2.2.1.heap rfl, HMY.out.2.2.2.1.heap rfl, HMY.out.2.2.2.2⟩)
          have HGD : Hid (∀ W, XD.grownBy W (some bc) → w.grownBy W (some bc)) := Lib.hid fun W hW => HMY.out.2.1.trans (by rw [hXD] at hW; exact gb_ahead hW)
          have HBX : Hid (BumpE XD bc (n + 1) F2 ⟨id, z, 3, xk⟩ m) := Lib.hid (by have := me_bump (F1 := F2) HMD.out.1 (by have := HNM.out; omega) (e := ⟨id, z, 3, xk⟩) ⟨HI.out, HVZ.out, by unfold i64; simp, HK.out⟩ (by rw [← hm]; omega) (by simp only [← hm]; first | exact HF2.out.1 | (have := HF2.out.1; simp only at this; omega)) HF2.out.2; rw [← hm] at this; exact this)
          clear hm hmb
          have HCK : Hid (∀ Z, XD.grownBy Z (some bc) → Z.cell? ⟨w.heap.size, 2, none⟩ = some (.int .i64 xt) ∧ Z.cell? ⟨w.heap.size, 1, none⟩ = some (.int .i64 xk)) := Lib.hid fun Z hZ => HCE.out Z ((hZ.block _ (heap_lt HMD.out.2.2) (fun e => by injection e with e; have := HBC.out.1; omega)).trans HMD.out.2.2)
          have H0 := Lib.hid (HCE.out _ HMD.out.2.2)
          clear HMY
          refine wp_region_held_drew (S := fun Z => Z.cell? ⟨w.heap.size, 2, none⟩ = some (.int .i64 xt) ∧ Z.cell? ⟨w.heap.size, 1, none⟩ = some (.int .i64 xk)) (by kernel_rfl) (hXD ▸ H0.out) (fun hHeld0 => ?_)
          rw [← hXD] at hHeld0 ⊢
          clear hXD H0
          refine wpAnyH_take (i := 0) (v := ?_) rfl (by kernel_rfl) (by kernel_rfl) (by kernel_rfl) (fun _ _ _ h => h) (Or.inl ⟨by rfl, ?ytA0⟩) (by assumption) ?qtA0
          case ytA0 => (intro wz hSw; (try dsimp only at hSw); go_simp <;> with_reducible rfl)
          try simp only [Act.put, List.getElem_toArray, List.getElem_cons_zero, List.setIfInBounds_toArray, List.set_cons_zero, List.set_cons_succ]
          refine wpAnyH_take (i := 1) (v := ?_) rfl (by kernel_rfl) (by kernel_rfl) (by kernel_rfl) (fun _ _ _ h => h) (Or.inl ⟨by rfl, ?ytA1⟩) (by assumption) ?qtA1
          case ytA1 => (intro wz hSw; (try dsimp only at hSw); go_simp <;> with_reducible rfl)
          try simp only [Act.put, List.getElem_toArray, List.getElem_cons_zero, List.getElem_cons_succ, List.setIfInBounds_toArray, List.set_cons_zero, List.set_cons_succ]
          refine wpAnyH_take (i := 2) (v := ?_) rfl (by kernel_rfl) (by kernel_rfl) (by kernel_rfl) (fun _ _ _ h => h) (Or.inl ⟨by rfl, ?ytA2⟩) (by assumption) ?qtA2
          case ytA2 => (intro wz hSw; (try dsimp only at hSw); go_simp <;> with_reducible rfl)
          try simp only [Act.put, List.getElem_toArray, List.getElem_cons_zero, List.getElem_cons_succ, List.setIfInBounds_toArray, List.set_cons_zero, List.set_cons_succ]
          refine wpAnyH_take (i := 3) (v := ?_) rfl (by kernel_rfl) (by kernel_rfl) (by kernel_rfl) (fun _ _ _ h => h) (Or.inl ⟨by rfl, ?ytA3⟩) (by assumption) ?qtA3
          case ytA3 => (intro wz hSw; (try dsimp only at hSw); go_simp <;> with_reducible rfl)
          try simp only [Act.put, List.getElem_toArray, List.getElem_cons_zero, List.getElem_cons_succ, List.setIfInBounds_toArray, List.set_cons_zero, List.set_cons_succ]
          refine wpAnyH_take (i := 4) (v := ?_) rfl (by kernel_rfl) (by kernel_rfl) (by kernel_rfl) (fun _ _ _ h => h) (Or.inl ⟨by rfl, ?ytA4⟩) (by assumption) ?qtA4
          case ytA4 => (intro wz hSw; (try dsimp only at hSw); go_simp <;> with_reducible rfl)
          try simp only [Act.put, List.getElem_toArray, List.getElem_cons_zero, List.getElem_cons_succ, List.setIfInBounds_toArray, List.set_cons_zero, List.set_cons_succ]
          refine wpAnyH_take (i := 5) (v := ?_) rfl (by kernel_rfl) (by kernel_rfl) (by kernel_rfl) (fun _ _ _ h => h) (Or.inl ⟨by rfl, ?ytA5⟩) (by assumption) ?qtA5
          case ytA5 => (intro wz hSw; (try dsimp only at hSw); go_simp <;> with_reducible rfl)
          try simp only [Act.put, List.getElem_toArray, List.getElem_cons_zero, List.getElem_cons_succ, List.setIfInBounds_toArray, List.set_cons_zero, List.set_cons_succ]
          obtain ⟨q0, st, w1, r1, r3, r2, w3, r4, r5, r6⟩ := HBX.out
          have HS0 := Lib.hid q0
          have HS1 := Lib.hid r2
          have HR1 := Lib.hid r1
          have HR4 := Lib.hid r4
          have HC1 := Lib.hid (HCK.out w1 r3)
          have HC3 := Lib.hid (HCK.out w3 (World.grownBy.trans r3 r6))
          have HMF := Lib.hid r5
          have HG := Lib.hid (World.grownBy.trans r3 r6)
          clear q0 r1 r2 r3 r4 r5 r6 HBX HCK
          refine wpAnyH_ready (rs := [6, 8]) (by kernel_rfl) (by simp) ?_
          refine AllReadyH.cons rfl (fun K hK => ?ordtAA) ?resttAA
          case ordtAA =>
            refine step_lookup rfl (.tmp 40) (.tmp 45) rfl (b := bc) (key := .agg #[.int .i64 id, .int .i64 z, .int .i64 3, .int .i64 xk]) (by simp [Act.eval]) (by simp [Act.eval]) HS0.out ?_
            refine hK.out _ _ hHeld0 (fun hHeldL => ?_)
            clear hK K
            try simp only [Act.put, List.getElem_toArray, List.getElem_cons_zero, List.getElem_cons_succ, List.setIfInBounds_toArray, List.set_cons_zero, List.set_cons_succ]
            refine wpAnyH_take (i := 7) (v := ?_) rfl (by kernel_rfl) (by kernel_rfl) (by kernel_rfl) (fun _ _ _ h => h) (Or.inl ⟨by rfl, ?ytAa7⟩) (by assumption) ?qtAa7
            case ytAa7 => (intro wz hSw; (try dsimp only at hSw); go_simp <;> with_reducible rfl)
            try simp only [Act.put, List.getElem_toArray, List.getElem_cons_zero, List.getElem_cons_succ, List.setIfInBounds_toArray, List.set_cons_zero, List.set_cons_succ]
            clear hHeldL
            refine wpAnyH_ready (rs := [8]) (by kernel_rfl) (by simp) ?_
            refine AllReadyH.cons rfl (fun K hK => ?_) AllReadyH.nil
            refine Mp.step_entry rfl (.tmp 40) (.tmp 45) rfl (b := bc) (key := .agg #[.int .i64 id, .int .i64 z, .int .i64 3, .int .i64 xk]) (by simp [Act.eval]) (by simp [Act.eval]) HR1.out ?_
            refine hK.out _ _ HC1.out (fun hHeldE => ?_)
            clear hK K
            try simp only [Act.put, List.getElem_toArray, List.getElem_cons_zero, List.getElem_cons_succ, List.setIfInBounds_toArray, List.set_cons_zero, List.set_cons_succ]
            refine wpAnyH_take (i := 9) (v := ?_) rfl (by kernel_rfl) (by kernel_rfl) (by kernel_rfl) (fun _ _ _ h => h) (Or.inl ⟨by rfl, ?ytAc9⟩) (by assumption) ?qtAc9
            case ytAc9 => (intro wz hSw; (try dsimp only at hSw); go_simp <;> with_reducible rfl)
            try simp only [Act.put, List.getElem_toArray, List.getElem_cons_zero, List.getElem_cons_succ, List.setIfInBounds_toArray, List.set_cons_zero, List.set_cons_succ]
            refine wpAnyH_ready (rs := [10]) (by kernel_rfl) (by simp) ?_
            refine AllReadyH.cons rfl (fun K hK => ?_) AllReadyH.nil
            refine Mp.step_entryStore rfl (.tmp 40) (.tmp 49) (.tmp 47) rfl (b := bc) (st := goInt st) (val := .int .i64 (m + 1)) (by simp [Act.eval]) (by simp [Act.eval, goInt]) (by simp [Act.eval]) HR4.out ?_
            refine hK.out _ _ HC3.out (fun hHeldS => ?_)
            clear hK K
            try simp only [Act.put, List.getElem_toArray, List.getElem_cons_zero, List.getElem_cons_succ]
            refine wpAnyH_done (by kernel_rfl) ?_ _
            clear hHeld0 hHeldE hHeldS HC1 HC3 HS0 HS1 HR1 HR4
            have HFIN := Lib.hid (HE.out _ _ (show n + 1 + 1 ≤ n + 2 by omega) HMF.out (HGD.out w3 HG.out))
            clear HMF HG HE HGD
            go_wp2_with fail
            exact bodyPost_end (v := .tuple #[]) (results_none rfl _ _ _) rfl HFIN.out
          refine AllReadyH.cons rfl (fun K hK => ?ordtAB) AllReadyH.nil
          case ordtAB =>
            refine Mp.step_entry rfl (.tmp 40) (.tmp 45) rfl (b := bc) (key := .agg #[.int .i64 id, .int .i64 z, .int .i64 3, .int .i64 xk]) (by simp [Act.eval]) (by simp [Act.eval]) HR1.out ?_
            refine hK.out _ _ HC1.out (fun hHeldE => ?_)
            clear hK K
            try simp only [Act.put, List.getElem_toArray, List.getElem_cons_zero, List.getElem_cons_succ, List.setIfInBounds_toArray, List.set_cons_zero, List.set_cons_succ]
            refine wpAnyH_take (i := 9) (v := ?_) rfl (by kernel_rfl) (by kernel_rfl) (by kernel_rfl) (fun _ _ _ h => h) (Or.inl ⟨by rfl, ?ytAd9⟩) (by assumption) ?qtAd9
            case ytAd9 => (intro wz hSw; (try dsimp only at hSw); go_simp <;> with_reducible rfl)
            try simp only [Act.put, List.getElem_toArray, List.getElem_cons_zero, List.getElem_cons_succ, List.setIfInBounds_toArray, List.set_cons_zero, List.set_cons_succ]
            refine wpAnyH_ready (rs := [6]) (by kernel_rfl) (by simp) ?_
            refine AllReadyH.cons rfl (fun K hK => ?_) AllReadyH.nil
            refine step_lookup rfl (.tmp 40) (.tmp 45) rfl (b := bc) (key := .agg #[.int .i64 id, .int .i64 z, .int .i64 3, .int .i64 xk]) (by simp [Act.eval]) (by simp [Act.eval]) HS1.out ?_
            refine hK.out _ _ hHeldE (fun hHeldL => ?_)
            clear hK K
            try simp only [Act.put, List.getElem_toArray, List.getElem_cons_zero, List.getElem_cons_succ, List.setIfInBounds_toArray, List.set_cons_zero, List.set_cons_succ]
            refine wpAnyH_take (i := 7) (v := ?_) rfl (by kernel_rfl) (by kernel_rfl) (by kernel_rfl) (fun _ _ _ h => h) (Or.inl ⟨by rfl, ?ytAb7⟩) (by assumption) ?qtAb7
            case ytAb7 => (intro wz hSw; (try dsimp only at hSw); go_simp <;> with_reducible rfl)
            try simp only [Act.put, List.getElem_toArray, List.getElem_cons_zero, List.getElem_cons_succ, List.setIfInBounds_toArray, List.set_cons_zero, List.set_cons_succ]
            clear hHeldL
            refine wpAnyH_ready (rs := [10]) (by kernel_rfl) (by simp) ?_
            refine AllReadyH.cons rfl (fun K hK => ?_) AllReadyH.nil
            refine Mp.step_entryStore rfl (.tmp 40) (.tmp 49) (.tmp 47) rfl (b := bc) (st := goInt st) (val := .int .i64 (m + 1)) (by simp [Act.eval]) (by simp [Act.eval, goInt]) (by simp [Act.eval]) HR4.out ?_
            refine hK.out _ _ HC3.out (fun hHeldS => ?_)
            clear hK K
            try simp only [Act.put, List.getElem_toArray, List.getElem_cons_zero, List.getElem_cons_succ]
            refine wpAnyH_done (by kernel_rfl) ?_ _
            clear hHeld0 hHeldE hHeldS HC1 HC3 HS0 HS1 HR1 HR4
            have HFIN := Lib.hid (HE.out _ _ (show n + 1 + 1 ≤ n + 2 by omega) HMF.out (HGD.out w3 HG.out))
            clear HMF HG HE HGD
            go_wp2_with fail
            exact bodyPost_end (v := .tuple #[]) (results_none rfl _ _ _) rfl HFIN.out
    refine AllReadyH.cons rfl (fun K hK => ?ordrB) AllReadyH.nil
    case ordrB =>
      refine Mp.step_entry rfl (.tmp 13) (.tmp 19) rfl (b := bc) (key := .agg #[.int .i64 xt, .int .i64 id, .int .i64 2, .int .i64 xk]) (by simp [Act.eval]) (by simp [Act.eval]) HR1.out ?_
      refine hK.out _ _ HC1.out (fun hHeldE => ?_)
      clear hK K
      try simp only [Act.put, List.getElem_toArray, List.getElem_cons_zero, List.getElem_cons_succ, List.setIfInBounds_toArray, List.set_cons_zero, List.set_cons_succ]
      refine wpAnyH_take (i := 10) (v := ?_) rfl (by kernel_rfl) (by kernel_rfl) (by kernel_rfl) (fun _ _ _ h => h) (Or.inl ⟨by rfl, ?yrd10⟩) (by assumption) ?qrd10
      case yrd10 => (intro wz hSw; (try dsimp only at hSw); go_simp <;> with_reducible rfl)
      try simp only [Act.put, List.getElem_toArray, List.getElem_cons_zero, List.getElem_cons_succ, List.setIfInBounds_toArray, List.set_cons_zero, List.set_cons_succ]
      refine wpAnyH_ready (rs := [7]) (by kernel_rfl) (by simp) ?_
      refine AllReadyH.cons rfl (fun K hK => ?_) AllReadyH.nil
      refine step_lookup rfl (.tmp 13) (.tmp 19) rfl (b := bc) (key := .agg #[.int .i64 xt, .int .i64 id, .int .i64 2, .int .i64 xk]) (by simp [Act.eval]) (by simp [Act.eval]) HS1.out ?_
      refine hK.out _ _ hHeldE (fun hHeldL => ?_)
      clear hK K
      try simp only [Act.put, List.getElem_toArray, List.getElem_cons_zero, List.getElem_cons_succ, List.setIfInBounds_toArray, List.set_cons_zero, List.set_cons_succ]
      refine wpAnyH_take (i := 8) (v := ?_) rfl (by kernel_rfl) (by kernel_rfl) (by kernel_rfl) (fun _ _ _ h => h) (Or.inl ⟨by rfl, ?yrb8⟩) (by assumption) ?qrb8
      case yrb8 => (intro wz hSw; (try dsimp only at hSw); go_simp <;> with_reducible rfl)
      try simp only [Act.put, List.getElem_toArray, List.getElem_cons_zero, List.getElem_cons_succ, List.setIfInBounds_toArray, List.set_cons_zero, List.set_cons_succ]
      clear hHeldL
      refine wpAnyH_ready (rs := [11]) (by kernel_rfl) (by simp) ?_
      refine AllReadyH.cons rfl (fun K hK => ?_) AllReadyH.nil
      refine Mp.step_entryStore rfl (.tmp 13) (.tmp 23) (.tmp 21) rfl (b := bc) (st := goInt st) (val := .int .i64 (m1 + 1)) (by simp [Act.eval]) (by simp [Act.eval, goInt]) (by simp [Act.eval]) HR4.out ?_
      refine hK.out _ _ HC3.out (fun hHeldS => ?_)
      clear hK K
      try simp only [Act.put, List.getElem_toArray, List.getElem_cons_zero, List.getElem_cons_succ]
      refine wpAnyH_done (by kernel_rfl) ?_ _
      clear hHeld0 hHeldE hHeldS HC1 HC3 HS0 HS1 HR1 HR4
      have HY : Hid (n + 1 ≤ n + 2 ∧ w.grownBy w3 (some bc) ∧ ME w3 bc (n + 1) (fun e => F e + (RWf e : Nat)) ∧ MN w3 bn n2 nx ∧ w3.heap[w.heap.size]? = some (boxO ⟨xr, xk, xt, xn⟩)) := Lib.hid ⟨by omega, HGD.out w3 HG.out, HMF.out, HMD.out.2.1.kept HG.out (fun e => by injection e with e; exact HNE.out e), (HG.out.block _ (heap_lt HMD.out.2.2) (fun e => by injection e with e; have := HBC.out.1; omega)).trans HMD.out.2.2⟩
      clear HMF HG HGD HMD HF2 hw1
      obtain ⟨j1, j2⟩ := HCE.out _ HY.out.2.2.2.2
      have HMN := Lib.hid HY.out.2.2.2.1
      cases hnx : nx (xt, xk) with
      | none =>
        have HNX := Lib.hid hnx
        have HFIN := Lib.hid (HE.out _ _ HY.out.1 (HY.out.2.2.1.ext fun e => by rw [HRW.out, hnx]; simp) HY.out.2.1)
        clear HY HE HRW hnx HF HW0 HW1
        go_wp2_with (at_lookup; refine Mp.wp_lookO Mp.keyedA Tryz.underlying75 Tryz.underlying3 zeroIn rfl (.tmp 25) (.tmp 30) rfl HMN.out rfl (xt, xk) rfl HKL.out ?_; rw [HNX.out]; dsimp only [Option.getD, Option.isSome])
        exact bodyPost_end (v := .tuple #[]) (results_none rfl _ _ _) rfl HFIN.out
      | some z =>
        have HNX := Lib.hid hnx
        by_cases hz : z = id
        · have hzb : (z != id) = false := by simp [hz]
          have HFIN := Lib.hid (HE.out _ _ HY.out.1 (HY.out.2.2.1.ext fun e => by rw [HRW.out, hnx]; simp [hz]) HY.out.2.1)
          clear HY HE HRW hnx HF HW0 HW1
          go_wp2_with (at_lookup; refine Mp.wp_lookO Mp.keyedA Tryz.underlying75 Tryz.underlying3 zeroIn rfl (.tmp 25) (.tmp 30) rfl HMN.out rfl (xt, xk) rfl HKL.out ?_; rw [HNX.out]; dsimp only [Option.getD, Option.isSome])
          exact bodyPost_end (v := .tuple #[]) (results_none rfl _ _ _) rfl HFIN.out
        · have hzb : (z != id) = true := by simp [hz]
          have HVZ := Lib.hid (HV.out _ _ hnx)
          obtain ⟨m, hm⟩ : ∃ m : Int, m = F ⟨id, z, 3, xk⟩ + (RWf ⟨id, z, 3, xk⟩ : Nat) := ⟨_, rfl⟩
          have hmb : 0 ≤ m ∧ m ≤ 1000000000001 := by rw [hm]; have h1 := HF.out ⟨id, z, 3, xk⟩; have h2 := HWL.out ⟨id, z, 3, xk⟩; omega
          have HF2 : Hid ((fun e => F e + (RWf e : Nat) + (RR e : Nat)) ⟨id, z, 3, xk⟩ = m + 1 ∧ ∀ e, e ≠ ⟨id, z, 3, xk⟩ → (fun e => F e + (RWf e : Nat) + (RR e : Nat)) e = F e + (RWf e : Nat)) := Lib.hid ⟨by simp only; rw [HRW.out, hnx, hm]; simp [hz], fun e he => by simp only; rw [HRW.out, hnx]; simp [he]⟩
          obtain ⟨F2, hF2⟩ : ∃ f : Edg → Int, f = fun e => F e + (RWf e : Nat) + (RR e : Nat) := ⟨_, rfl⟩
          rw [← hF2] at HF2 HE
          have hw : IntKind.i64.wrap (m + 1) = m + 1 := by rw [IntKind.wrap_i64] <;> omega
          have HMY := Lib.hid HY.out
          clear HY HRW hnx HF HW0 HW1 hF2
          go_wp2_with (at_lookup; refine Mp.wp_lookO Mp.keyedA Tryz.underlying75 Tryz.underlying3 zeroIn rfl (.tmp 25) (.tmp 30) rfl HMN.out rfl (xt, xk) rfl HKL.out ?_; rw [HNX.out]; dsimp only [Option.getD, Option.isSome])
          go_upto_region 5 with fail
          obtain ⟨XD, hXD⟩ : ∃ W, W = w3.drew := ⟨_, rfl⟩
          have HMD : Hid (ME XD bc (n + 1) (fun e => F e + (RWf e : Nat)) ∧ MN XD bn n2 nx ∧ XD.heap[w.heap.size]? = some (boxO ⟨xr, xk, xt, xn⟩)) := Lib.hid (by rw [hXD]; exact ⟨HMY.out.2.2.1.heap rfl, HMY.out.2.2.2.1.heap rfl, HMY.out.2.2.2.2⟩)
          have HGD : Hid (∀ W, XD.grownBy W (some bc) → w.grownBy W (some bc)) := Lib.hid fun W hW => HMY.out.2.1.trans (by rw [hXD] at hW; exact gb_ahead hW)
          have HBX : Hid (BumpE XD bc (n + 1) F2 ⟨id, z, 3, xk⟩ m) := Lib.hid (by have := me_bump (F1 := F2) HMD.out.1 (by have := HNM.out; omega) (e := ⟨id, z, 3, xk⟩) ⟨HI.out, HVZ.out, by unfold i64; simp, HK.out⟩ (by rw [← hm]; omega) (by simp only [← hm]; first | exact HF2.out.1 | (have := HF2.out.1; simp only at this; omega)) HF2.out.2; rw [← hm] at this; exact this)
          clear hm hmb
          have HCK : Hid (∀ Z, XD.grownBy Z (some bc) → Z.cell? ⟨w.heap.size, 2, none⟩ = some (.int .i64 xt) ∧ Z.cell? ⟨w.heap.size, 1, none⟩ = some (.int .i64 xk)) := Lib.hid fun Z hZ => HCE.out Z ((hZ.block _ (heap_lt HMD.out.2.2) (fun e => by injection e with e; have := HBC.out.1; omega)).trans HMD.out.2.2)
          have H0 := Lib.hid (HCE.out _ HMD.out.2.2)
          clear HMY
          refine wp_region_held_drew (S := fun Z => Z.cell? ⟨w.heap.size, 2, none⟩ = some (.int .i64 xt) ∧ Z.cell? ⟨w.heap.size, 1, none⟩ = some (.int .i64 xk)) (by kernel_rfl) (hXD ▸ H0.out) (fun hHeld0 => ?_)
          rw [← hXD] at hHeld0 ⊢
          clear hXD H0
          refine wpAnyH_take (i := 0) (v := ?_) rfl (by kernel_rfl) (by kernel_rfl) (by kernel_rfl) (fun _ _ _ h => h) (Or.inl ⟨by rfl, ?ytB0⟩) (by assumption) ?qtB0
          case ytB0 => (intro wz hSw; (try dsimp only at hSw); go_simp <;> with_reducible rfl)
          try simp only [Act.put, List.getElem_toArray, List.getElem_cons_zero, List.setIfInBounds_toArray, List.set_cons_zero, List.set_cons_succ]
          refine wpAnyH_take (i := 1) (v := ?_) rfl (by kernel_rfl) (by kernel_rfl) (by kernel_rfl) (fun _ _ _ h => h) (Or.inl ⟨by rfl, ?ytB1⟩) (by assumption) ?qtB1
          case ytB1 => (intro wz hSw; (try dsimp only at hSw); go_simp <;> with_reducible rfl)
          try simp only [Act.put, List.getElem_toArray, List.getElem_cons_zero, List.getElem_cons_succ, List.setIfInBounds_toArray, List.set_cons_zero, List.set_cons_succ]
          refine wpAnyH_take (i := 2) (v := ?_) rfl (by kernel_rfl) (by kernel_rfl) (by kernel_rfl) (fun _ _ _ h => h) (Or.inl ⟨by rfl, ?ytB2⟩) (by assumption) ?qtB2
          case ytB2 => (intro wz hSw; (try dsimp only at hSw); go_simp <;> with_reducible rfl)
          try simp only [Act.put, List.getElem_toArray, List.getElem_cons_zero, List.getElem_cons_succ, List.setIfInBounds_toArray, List.set_cons_zero, List.set_cons_succ]
          refine wpAnyH_take (i := 3) (v := ?_) rfl (by kernel_rfl) (by kernel_rfl) (by kernel_rfl) (fun _ _ _ h => h) (Or.inl ⟨by rfl, ?ytB3⟩) (by assumption) ?qtB3
          case ytB3 => (intro wz hSw; (try dsimp only at hSw); go_simp <;> with_reducible rfl)
          try simp only [Act.put, List.getElem_toArray, List.getElem_cons_zero, List.getElem_cons_succ, List.setIfInBounds_toArray, List.set_cons_zero, List.set_cons_succ]
          refine wpAnyH_take (i := 4) (v := ?_) rfl (by kernel_rfl) (by kernel_rfl) (by kernel_rfl) (fun _ _ _ h => h) (Or.inl ⟨by rfl, ?ytB4⟩) (by assumption) ?qtB4
          case ytB4 => (intro wz hSw; (try dsimp only at hSw); go_simp <;> with_reducible rfl)
          try simp only [Act.put, List.getElem_toArray, List.getElem_cons_zero, List.getElem_cons_succ, List.setIfInBounds_toArray, List.set_cons_zero, List.set_cons_succ]
          refine wpAnyH_take (i := 5) (v := ?_) rfl (by kernel_rfl) (by kernel_rfl) (by kernel_rfl) (fun _ _ _ h => h) (Or.inl ⟨by rfl, ?ytB5⟩) (by assumption) ?qtB5
          case ytB5 => (intro wz hSw; (try dsimp only at hSw); go_simp <;> with_reducible rfl)
          try simp only [Act.put, List.getElem_toArray, List.getElem_cons_zero, List.getElem_cons_succ, List.setIfInBounds_toArray, List.set_cons_zero, List.set_cons_succ]
          obtain ⟨q0, st, w1, r1, r3, r2, w3, r4, r5, r6⟩ := HBX.out
          have HS0 := Lib.hid q0
          have HS1 := Lib.hid r2
          have HR1 := Lib.hid r1
          have HR4 := Lib.hid r4
          have HC1 := Lib.hid (HCK.out w1 r3)
          have HC3 := Lib.hid (HCK.out w3 (World.grownBy.trans r3 r6))
          have HMF := Lib.hid r5
          have HG := Lib.hid (World.grownBy.trans r3 r6)
          clear q0 r1 r2 r3 r4 r5 r6 HBX HCK
          refine wpAnyH_ready (rs := [6, 8]) (by kernel_rfl) (by simp) ?_
          refine AllReadyH.cons rfl (fun K hK => ?ordtBA) ?resttBA
          case ordtBA =>
            refine step_lookup rfl (.tmp 40) (.tmp 45) rfl (b := bc) (key := .agg #[.int .i64 id, .int .i64 z, .int .i64 3, .int .i64 xk]) (by simp [Act.eval]) (by simp [Act.eval]) HS0.out ?_
            refine hK.out _ _ hHeld0 (fun hHeldL => ?_)
            clear hK K
            try simp only [Act.put, List.getElem_toArray, List.getElem_cons_zero, List.getElem_cons_succ, List.setIfInBounds_toArray, List.set_cons_zero, List.set_cons_succ]
            refine wpAnyH_take (i := 7) (v := ?_) rfl (by kernel_rfl) (by kernel_rfl) (by kernel_rfl) (fun _ _ _ h => h) (Or.inl ⟨by rfl, ?ytBa7⟩) (by assumption) ?qtBa7
            case ytBa7 => (intro wz hSw; (try dsimp only at hSw); go_simp <;> with_reducible rfl)
            try simp only [Act.put, List.getElem_toArray, List.getElem_cons_zero, List.getElem_cons_succ, List.setIfInBounds_toArray, List.set_cons_zero, List.set_cons_succ]
            clear hHeldL
            refine wpAnyH_ready (rs := [8]) (by kernel_rfl) (by simp) ?_
            refine AllReadyH.cons rfl (fun K hK => ?_) AllReadyH.nil
            refine Mp.step_entry rfl (.tmp 40) (.tmp 45) rfl (b := bc) (key := .agg #[.int .i64 id, .int .i64 z, .int .i64 3, .int .i64 xk]) (by simp [Act.eval]) (by simp [Act.eval]) HR1.out ?_
            refine hK.out _ _ HC1.out (fun hHeldE => ?_)
            clear hK K
            try simp only [Act.put, List.getElem_toArray, List.getElem_cons_zero, List.getElem_cons_succ, List.setIfInBounds_toArray, List.set_cons_zero, List.set_cons_succ]
            refine wpAnyH_take (i := 9) (v := ?_) rfl (by kernel_rfl) (by kernel_rfl) (by kernel_rfl) (fun _ _ _ h => h) (Or.inl ⟨by rfl, ?ytBc9⟩) (by assumption) ?qtBc9
            case ytBc9 => (intro wz hSw; (try dsimp only at hSw); go_simp <;> with_reducible rfl)
            try simp only [Act.put, List.getElem_toArray, List.getElem_cons_zero, List.getElem_cons_succ, List.setIfInBounds_toArray, List.set_cons_zero, List.set_cons_succ]
            refine wpAnyH_ready (rs := [10]) (by kernel_rfl) (by simp) ?_
            refine AllReadyH.cons rfl (fun K hK => ?_) AllReadyH.nil
            refine Mp.step_entryStore rfl (.tmp 40) (.tmp 49) (.tmp 47) rfl (b := bc) (st := goInt st) (val := .int .i64 (m + 1)) (by simp [Act.eval]) (by simp [Act.eval, goInt]) (by simp [Act.eval]) HR4.out ?_
            refine hK.out _ _ HC3.out (fun hHeldS => ?_)
            clear hK K
            try simp only [Act.put, List.getElem_toArray, List.getElem_cons_zero, List.getElem_cons_succ]
            refine wpAnyH_done (by kernel_rfl) ?_ _
            clear hHeld0 hHeldE hHeldS HC1 HC3 HS0 HS1 HR1 HR4
            have HFIN := Lib.hid (HE.out _ _ (show n + 1 + 1 ≤ n + 2 by omega) HMF.out (HGD.out w3 HG.out))
            clear HMF HG HE HGD
            go_wp2_with fail
            exact bodyPost_end (v := .tuple #[]) (results_none rfl _ _ _) rfl HFIN.out
          refine AllReadyH.cons rfl (fun K hK => ?ordtBB) AllReadyH.nil
          case ordtBB =>
            refine Mp.step_entry rfl (.tmp 40) (.tmp 45) rfl (b := bc) (key := .agg #[.int .i64 id, .int .i64 z, .int .i64 3, .int .i64 xk]) (by simp [Act.eval]) (by simp [Act.eval]) HR1.out ?_
            refine hK.out _ _ HC1.out (fun hHeldE => ?_)
            clear hK K
            try simp only [Act.put, List.getElem_toArray, List.getElem_cons_zero, List.getElem_cons_succ, List.setIfInBounds_toArray, List.set_cons_zero, List.set_cons_succ]
            refine wpAnyH_take (i := 9) (v := ?_) rfl (by kernel_rfl) (by kernel_rfl) (by kernel_rfl) (fun _ _ _ h => h) (Or.inl ⟨by rfl, ?ytBd9⟩) (by assumption) ?qtBd9
            case ytBd9 => (intro wz hSw; (try dsimp only at hSw); go_simp <;> with_reducible rfl)
            try simp only [Act.put, List.getElem_toArray, List.getElem_cons_zero, List.getElem_cons_succ, List.setIfInBounds_toArray, List.set_cons_zero, List.set_cons_succ]
            refine wpAnyH_ready (rs := [6]) (by kernel_rfl) (by simp) ?_
            refine AllReadyH.cons rfl (fun K hK => ?_) AllReadyH.nil
            refine step_lookup rfl (.tmp 40) (.tmp 45) rfl (b := bc) (key := .agg #[.int .i64 id, .int .i64 z, .int .i64 3, .int .i64 xk]) (by simp [Act.eval]) (by simp [Act.eval]) HS1.out ?_
            refine hK.out _ _ hHeldE (fun hHeldL => ?_)
            clear hK K
            try simp only [Act.put, List.getElem_toArray, List.getElem_cons_zero, List.getElem_cons_succ, List.setIfInBounds_toArray, List.set_cons_zero, List.set_cons_succ]
            refine wpAnyH_take (i := 7) (v := ?_) rfl (by kernel_rfl) (by kernel_rfl) (by kernel_rfl) (fun _ _ _ h => h) (Or.inl ⟨by rfl, ?ytBb7⟩) (by assumption) ?qtBb7
            case ytBb7 => (intro wz hSw; (try dsimp only at hSw); go_simp <;> with_reducible rfl)
            try simp only [Act.put, List.getElem_toArray, List.getElem_cons_zero, List.getElem_cons_succ, List.setIfInBounds_toArray, List.set_cons_zero, List.set_cons_succ]
            clear hHeldL
            refine wpAnyH_ready (rs := [10]) (by kernel_rfl) (by simp) ?_
            refine AllReadyH.cons rfl (fun K hK => ?_) AllReadyH.nil
            refine Mp.step_entryStore rfl (.tmp 40) (.tmp 49) (.tmp 47) rfl (b := bc) (st := goInt st) (val := .int .i64 (m + 1)) (by simp [Act.eval]) (by simp [Act.eval, goInt]) (by simp [Act.eval]) HR4.out ?_
            refine hK.out _ _ HC3.out (fun hHeldS => ?_)
            clear hK K
            try simp only [Act.put, List.getElem_toArray, List.getElem_cons_zero, List.getElem_cons_succ]
            refine wpAnyH_done (by kernel_rfl) ?_ _
            clear hHeld0 hHeldE hHeldS HC1 HC3 HS0 HS1 HR1 HR4
            have HFIN := Lib.hid (HE.out _ _ (show n + 1 + 1 ≤ n + 2 by omega) HMF.out (HGD.out w3 HG.out))
            clear HMF HG HE HGD
            go_wp2_with fail
            exact bodyPost_end (v := .tuple #[]) (results_none rfl _ _ _) rfl HFIN.out
end Go.Proofs.YtcmafmdcgkpagaaGreat.Dg
namespace Go.Proofs.YtcmafmdcgkpagaaGreat.Dg
open Go.ChangeShapes Go.WideShapes Go.ChangeAt Go.RowKit Base F Tx Hi
/-- On the way. -/
def NW (P : Int → Bool) (os : List Ordr) (w wr : World) (k : Nat) : Prop := ∃ n, n ≤ 1000 * k ∧ MN wr (w.heap.size + 1) n (nxH P (os.take k)) ∧ Aft w wr
/-- Along an order. -/
def NV (w wA wr : World) (k j : Nat) (F : Int × Int → Option Int) (bx : Obj) : Prop := ∃ n, n ≤ 1000 * k + j ∧ MN wr (w.heap.size + 1) n F ∧ Aft w wr ∧ wr.heap[wA.heap.size]? = some bx ∧ w.heap.size + 1 < wA.heap.size
theorem getD_memR {l : List Ordr} {k : Nat} (h : k < l.length) : l.getD k Ordr.zero ∈ l := by
  rw [List.getD_eq_getElem?_getD, List.getElem?_eq_getElem h]
  exact List.getElem_mem h
theorem getD_memZ {l : List Int} {k : Nat} (h : k < l.length) : l.getD k 0 ∈ l := by
  rw [List.getD_eq_getElem?_getD, List.getElem?_eq_getElem h]
  exact List.getElem_mem h
theorem ahead_ok (key : Int) (F : Int × Int → Option Int) (l : List Int) (hl : ∀ x ∈ l, i64 x) : ∀ j, j ≤ l.length → i64 (nxL key F (l.take j)).1
  | 0, _ => by unfold i64 nxL; simp
  | j + 1, hj => by
    rw [nxL_snoc key F l j (by omega)]
    exact hl _ (getD_memZ (by omega))
set_option maxRecDepth 100000 in
set_option maxHeartbeats 16000000 in
theorem nextOf_any {v u fv : Value} {h : Hist} (w : World) (hh : HistV w v u h) (hs : HistSm h) (hol : h.ords.length ≤ 100000) {F : Nat} {bd lb : Array Value} (P : Int → Bool) (hfv : fv = .func (.func F) bd lb) (eg : ∀ args w, (callFunc F args).run Tryz.prog w = .ok (.enter F args) w)
    (hP : ∀ (X : World) (k : Int), Aft w X → Calls Tryz.prog F (bd ++ #[.int .i64 k] ++ lb) X (BoolNew (P k) X)) : Calls Tryz.prog 40 #[.agg #[v, u], fv] w (NxP P h.ords w) := by
  subst hfv
  have hmm := @run_makeMap Tryz.prog
  obtain ⟨xs, os⟩ := h
  have HOK := Lib.hid hs.ords
  have HL := Lib.hid hs.ids
  obtain ⟨h1, h2⟩ := hh
  simp only at h1 h2 hol HOK HL ⊢
  obtain ⟨p, c, rfl, _, hlm⟩ := h2.form
  have HT := Lib.hid h2
  have HP := Lib.hid hP
  have HS0 : Hid (∀ W, W = (w.alloc (.cells #[v, .slice p os.length c] 25)).alloc (.map #[] 0) → NW P os w W 0) := Lib.hid fun W hW => by
    subst hW
    exact ⟨0, Nat.le_refl _, (Mp.MO.made (heap_alloc_at _ _ _ (by simp))).ext fun q => by simp [nxH], (Aft.one _).lay _⟩
  clear h1 h2 hs hP
  go_enter Tryz.func40, Tryz.ntmps40
  go_wp2_with fail
  clear hmm
  go_loopw [15] (fun s15 wr => ∃ k : Nat, s15 = .int .i64 (k : Int) ∧ k ≤ os.length ∧ Hid (NW P os w wr k)) (fun s15 _ => os.length - (intOf s15).toNat)
  case atStart => exact ⟨0, rfl, Nat.zero_le _, Lib.hid (HS0.out _ rfl)⟩
  case round =>
    clear HS0
    obtain ⟨k, rfl, hk, HS⟩ := hrel
    obtain ⟨wA, hwA⟩ : ∃ wA, wA = wr := ⟨_, rfl⟩
    subst hwA
    by_cases hlt : k < os.length
    · have HA : Hid (Aft w wA) := Lib.hid (by obtain ⟨_, _, _, h⟩ := HS.out; exact h)
      have HBL : Hid (w.heap.size + 1 < wA.heap.size) := Lib.hid (by obtain ⟨_, _, h, _⟩ := HS.out; exact h.lt)
      obtain ⟨g, o, sp, sc, rfl, hg, c0, c1, hs⟩ := HT.out.at_ hlt
      have c0 := HA.out.cell hg c0
      have c1 := HA.out.cell hg c1
      have hg := Nat.lt_of_lt_of_le hg HA.out.size
      have HSN := Lib.hid (nxH_snoc P os k hlt)
      have HLK := Lib.hid (HL.out _ (getD_memR hlt))
      have HOKK := Lib.hid (HOK.out _ (getD_memR hlt))
      have hkI : (k : Int) < (os.length : Int) := by omega
      generalize os.getD k Ordr.zero = t at c0 c1 hs HSN HLK HOKK
      obtain ⟨xk, tl⟩ := t
      simp only at c0 c1 hs HLK
      have HOP : Hid (∀ X, Aft w X → Lst.Ints 0 X (.slice sp tl.length sc) tl) := Lib.hid fun X hX => (hs.below hX).2
      have HK : Hid (i64 xk) := Lib.hid HOKK.out.1
      have HOKO : Hid (∀ x ∈ tl, i64 x) := Lib.hid HOKK.out.2
      have hln : tl.length ≤ 1000 := HLK.out
      clear hs HOKK HLK
      obtain ⟨X, hX⟩ : ∃ X, X = wA.alloc (.cells #[.int .i64 xk, .slice sp tl.length sc] 45) := ⟨_, rfl⟩
      have HAX : Hid (Aft w X) := Lib.hid (by rw [hX]; exact HA.out.lay _)
      have HPF := Lib.hid (HP.out X xk HAX.out)
      obtain ⟨bx, hbx⟩ : ∃ b : Obj, b = .cells #[.int .i64 xk, .slice sp tl.length sc] 45 := ⟨_, rfl⟩
      have HBC : Hid (∀ W : World, W.heap[wA.heap.size]? = some bx → W.cell? ⟨wA.heap.size, 0, none⟩ = some (.int .i64 xk) ∧ W.cell? ⟨wA.heap.size, 1, none⟩ = some (.slice sp tl.length sc)) := Lib.hid fun W hW => by
        rw [hbx] at hW
        simp [World.cell?, hW]
      have HXB : Hid (X.heap[wA.heap.size]? = some bx) := Lib.hid (by rw [hX, hbx]; exact heap_alloc_at _ _ _ rfl)
      have HI0 : Hid (∀ W, Aft X W → ∃ n, n ≤ 1000 * k ∧ MN W (w.heap.size + 1) n (nxH P (os.take k)) ∧ Aft w W ∧ W.heap[wA.heap.size]? = some bx) := Lib.hid fun W hW => by
        obtain ⟨n, h1, h2, h3⟩ := HS.out
        have hXA : Aft wA X := by rw [hX]; exact Aft.one _
        exact ⟨n, h1, (h2.below hXA).below hW, HAX.out.trans hW, (hW.block _ (heap_lt HXB.out)).trans HXB.out⟩
      have hwl : wA.heap.size < X.heap.size := heap_lt HXB.out
      clear HS hbx
      cases hpk : P xk with
      | false =>
        rw [hpk] at HPF
        have HR : Hid (∀ W, Aft X W → NW P os w W (k + 1)) := Lib.hid fun W hW => by
          obtain ⟨n, h1, h2, h3, _⟩ := HI0.out W hW
          exact ⟨n, by omega, h2.ext fun q => by rw [HSN.out]; unfold nxO; simp only [hpk]; rfl, h3⟩
        clear HI0 HSN hpk
        go_upto_region 5 with fail
        rw [← hX]
        clear hX
        obtain ⟨e0, e1⟩ := HBC.out X HXB.out
        repeat (first | (refine HPF.out.mono ?_) | go_step)
        rintro e w2 ⟨rfl, ha⟩
        have HR2 := Lib.hid (HR.out w2 ha)
        clear ha HR HPF HAX HXB
        go_wp2_with fail
        go_roundw
        case rel => exact ⟨k + 1, by go_num, hlt, HR2⟩
        case measure => simp [intOf]; omega
      | true =>
        rw [hpk] at HPF
        have HSN2 : Hid (nxH P (os.take (k + 1)) = (nxL xk (nxH P (os.take k)) tl).2) := Lib.hid (by rw [HSN.out]; unfold nxO; simp only [hpk]; rfl)
        clear HSN hpk
        generalize nxH P (os.take k) = F0 at HI0 HSN2
        go_upto_region 5 with fail
        rw [← hX]
        clear hX
        obtain ⟨e0, e1⟩ := HBC.out X HXB.out
        repeat (first | (refine HPF.out.mono ?_) | go_step)
        rintro e w2 ⟨rfl, ha⟩
        have HJ0 : Hid (NV w wA w2 k 0 (nxL xk F0 (tl.take 0)).2 bx ∧ (0 : Int) = (nxL xk F0 (tl.take 0)).1) := Lib.hid (by
          obtain ⟨n, h1, h2, h3, h4⟩ := HI0.out w2 ha
          exact ⟨⟨n, by omega, h2, h3, h4, HBL.out⟩, rfl⟩)
        obtain ⟨f0, f1⟩ := HBC.out w2 (by obtain ⟨_, _, _, _, h, _⟩ := HJ0.out.1; exact h)
        have hw2 : wA.heap.size < w2.heap.size := (by obtain ⟨_, _, _, _, h, _⟩ := HJ0.out.1; exact heap_lt h)
        clear ha HI0 HPF HAX HXB e0 e1
        obtain ⟨tn, htn⟩ : ∃ n, n = tl.length := ⟨_, rfl⟩
        rw [← htn] at HBC hln HOP f1
        have HTN := Lib.hid htn
        clear htn
        go_wp2_with fail
        clear f0 f1
        go_loopw [8, 27] (fun s8 s27 wr => ∃ (j : Nat) (a : Int), s27 = .int .i64 (j : Int) ∧ s8 = .int .i64 a ∧ j ≤ tn ∧ Hid (NV w wA wr k j (nxL xk F0 (tl.take j)).2 bx ∧ a = (nxL xk F0 (tl.take j)).1)) (fun _ s27 _ => tn - (intOf s27).toNat)
        case atStart => exact ⟨0, 0, rfl, rfl, Nat.zero_le _, HJ0⟩
        case round =>
          clear HJ0
          obtain ⟨j, a, rfl, rfl, hj, HS⟩ := hrel
          by_cases hlt2 : j < tn
          · have hltl : j < tl.length := by rw [← HTN.out]; exact hlt2
            have HA2 : Hid (Aft w wr) := Lib.hid (by obtain ⟨_, _, _, h, _⟩ := HS.out.1; exact h)
            obtain ⟨f0, f1⟩ := HBC.out wr (by obtain ⟨_, _, _, _, h, _⟩ := HS.out.1; exact h)
            have hwr : wA.heap.size < wr.heap.size := (by obtain ⟨_, _, _, _, h, _⟩ := HS.out.1; exact heap_lt h)
            obtain ⟨p', c', e, _, hc⟩ := (HOP.out _ HA2.out).open_
            injection e with e1 e2 e3
            subst e1 e3
            clear e2
            obtain ⟨g2, o2, rfl, _, hg2, d0⟩ := hc j hltl
            clear hc
            have HSJ := Lib.hid (nxL_snoc xk F0 tl j hltl)
            have HAJ : Hid (i64 a) := Lib.hid (by rw [HS.out.2]; exact ahead_ok xk F0 tl HOKO.out j (by omega))
            have HVJ := Lib.hid (HOKO.out _ (getD_memZ hltl))
            have hjI : (j : Int) < (tn : Int) := by omega
            obtain ⟨kl, hkl⟩ := Mp.key_a a xk HAJ.out HK.out
            have HKL := Lib.hid hkl
            obtain ⟨y, hy⟩ : ∃ y, y = tl.getD j 0 := ⟨_, rfl⟩
            rw [← hy] at d0 HSJ HVJ
            have HWF : Hid ((Lit.int .i64 y).wf = true) := Lib.hid (WalkArith.wf_i64 HVJ.out)
            obtain ⟨n, hn, hmn, _, hb4, hb5⟩ := HS.out.1
            have HMN := Lib.hid hmn
            have hnm : n < maxLen := by simp only [maxLen]; omega
            have HF1 : Hid (∀ z : Int × Int, gH z = gH (a, xk) → setF (nxL xk F0 (tl.take j)).2 (a, xk) y z = some y) := Lib.hid fun z e => by rw [gH_inj e]; unfold setF; rw [if_pos rfl]
            have HF2 : Hid (∀ z : Int × Int, gH z ≠ gH (a, xk) → setF (nxL xk F0 (tl.take j)).2 (a, xk) y z = (nxL xk F0 (tl.take j)).2 z) := Lib.hid fun z e => by unfold setF; rw [if_neg (fun e2 => e (by rw [e2]))]
            have HR : Hid (∀ W, MN W (w.heap.size + 1) (n + 1) (setF (nxL xk F0 (tl.take j)).2 (a, xk) y) → wr.grownBy W (some (w.heap.size + 1)) → NV w wA W k (j + 1) (nxL xk F0 (tl.take (j + 1))).2 bx ∧ y = (nxL xk F0 (tl.take (j + 1))).1) := Lib.hid fun W hm hg => by
              rw [HSJ.out]
              unfold nxS
              rw [← HS.out.2]
              exact ⟨⟨n + 1, by omega, hm, Below.grown HA2.out hg HA2.out.size (fun q hq => by injection hq with hq; omega), (hg.block _ (heap_lt hb4) (fun e => by injection e with e; omega)).trans hb4, hb5⟩, rfl⟩
            clear HS HSJ hmn hn hkl hb4 hb5 HAJ HVJ hy
            go_wp2_with (at_mapUpdate; refine Mp.wp_storeO Mp.keyedA Tryz.underlying75 Tryz.underlying3 rfl (.tmp 31) (.tmp 35) (.tmp 36) rfl HMN.out hnm rfl (a, xk) rfl HKL.out y HWF.out rfl (setF (nxL xk F0 (tl.take j)).2 (a, xk) y) HF1.out HF2.out ?_; intro w3 h3 hg3; have HR3 := Lib.hid (HR.out w3 h3 hg3); clear h3 hg3)
            clear HR HMN HF1 HF2 HKL HWF
            go_roundw
            case rel => exact ⟨j + 1, y, by go_num, rfl, by omega, HR3⟩
            case measure => simp [intOf]; omega
          · have hje : j = tn := by omega
            have HR : Hid (NW P os w wr (k + 1)) := Lib.hid (by
              obtain ⟨n, h1, h2, h3, _⟩ := HS.out.1
              rw [hje, HTN.out, List.take_length, ← HSN2.out] at h2
              exact ⟨n, by omega, h2, h3⟩)
            clear HS HSN2 hje
            go_wp2_with fail
            go_roundw
            case rel => exact ⟨k + 1, by go_num, by omega, HR⟩
            case measure => simp [intOf]; omega
    · have hke : k = os.length := by omega
      have HR : Hid (∃ n, n ≤ 1000 * os.length ∧ MN wA (w.heap.size + 1) n (nxH P os) ∧ Aft w wA) := Lib.hid (by
        obtain ⟨n, h1, h2, h3⟩ := HS.out
        rw [hke, List.take_length] at h2
        rw [hke] at h1
        exact ⟨n, h1, h2, h3⟩)
      clear HS HT HOK HL hke
      go_wp2_with fail
      go_ret
      obtain ⟨n, h1, h2, h3⟩ := HR.out
      exact ⟨_, n, rfl, by omega, h1, h2, h3⟩
end Go.Proofs.YtcmafmdcgkpagaaGreat.Dg
namespace Go.Proofs.YtcmafmdcgkpagaaGreat.Dg
open Go.ChangeShapes Go.WideShapes Go.ChangeAt Go.RowKit Base F Tx Hi Go.Sort
/-- On the way. -/
def LW (P : Int → Bool) (xs : List Txn) (w wr : World) (k : Nat) : Prop := ∃ n, n ≤ 100000 * k ∧ ML wr (w.heap.size + 1) n (fun q => ((laH P (xs.take k) q.1 q.2 : Nat) : Int)) ∧ Aft w wr
/-- Among one's operations. -/
def LV (w wA wr : World) (k j : Nat) (F : Int × Int → Int) (bx : Obj) : Prop := ∃ n, n ≤ 100000 * k + j ∧ ML wr (w.heap.size + 1) n F ∧ Aft w wr ∧ wr.heap[wA.heap.size]? = some bx ∧ w.heap.size + 1 < wA.heap.size
theorem LV.aft {w wA wr W : World} {k j : Nat} {F : Int × Int → Int} {bx : Obj} (h : LV w wA wr k j F bx) (ha : Aft wr W) : LV w wA W k j F bx := by
  obtain ⟨n, h1, h2, h3, h4, h5⟩ := h
  exact ⟨n, h1, h2.below ha, h3.trans ha, (ha.block _ (heap_lt h4)).trans h4, h5⟩
theorem LV.next {w wA wr : World} {k j : Nat} {F F' : Int × Int → Int} {bx : Obj} (h : LV w wA wr k j F bx) (he : ∀ q, F q = F' q) : LV w wA wr k (j + 1) F' bx := by
  obtain ⟨n, h1, h2, h3⟩ := h
  exact ⟨n, by omega, h2.ext he, h3⟩
set_option maxRecDepth 100000 in
set_option maxHeartbeats 16000000 in
theorem lastOf_any {v u fv : Value} {h : Hist} (w : World) (hh : HistV w v u h) (hs : HistSm h) {F : Nat} {bd lb : Array Value} (P : Int → Bool) (hfv : fv = .func (.func F) bd lb) (eg : ∀ args w, (callFunc F args).run Tryz.prog w = .ok (.enter F args) w)
    (hP : ∀ (X : World) (k : Int), Aft w X → Calls Tryz.prog F (bd ++ #[.int .i64 k] ++ lb) X (BoolNew (P k) X)) : Calls Tryz.prog 39 #[.agg #[v, u], fv] w (LaP P h.txs w) := by
  subst hfv
  have hmm := @run_makeMap Tryz.prog
  obtain ⟨xs, os⟩ := h
  have HOK := Lib.hid hs.txs
  have HL := Lib.hid hs.ops
  have HX := Lib.hid hs.num
  obtain ⟨h1, h2⟩ := hh
  simp only at h1 h2 HOK HL HX ⊢
  obtain ⟨p, c, rfl, _, hlm⟩ := h1.form
  have HT := Lib.hid h1
  have HP := Lib.hid hP
  have HS0 : Hid (∀ W, W = (w.alloc (.cells #[.slice p xs.length c, u] 25)).alloc (.map #[] 0) → LW P xs w W 0) := Lib.hid fun W hW => by
    subst hW
    exact ⟨0, by omega, (Mp.MI.made (heap_alloc_at _ _ _ (by simp))).ext fun q => by simp [laH], (Aft.one _).lay _⟩
  clear h1 h2 hs hP
  go_enter Tryz.func39, Tryz.ntmps39
  go_wp2_with fail
  clear hmm
  go_loopw [14] (fun s14 wr => ∃ k : Nat, s14 = .int .i64 (k : Int) ∧ k ≤ xs.length ∧ Hid (LW P xs w wr k)) (fun s14 _ => xs.length - (intOf s14).toNat)
  case atStart => exact ⟨0, rfl, Nat.zero_le _, Lib.hid (HS0.out _ rfl)⟩
  case round =>
    clear HS0
    obtain ⟨k, rfl, hk, HS⟩ := hrel
    obtain ⟨wA, hwA⟩ : ∃ wA, wA = wr := ⟨_, rfl⟩
    subst hwA
    by_cases hlt : k < xs.length
    · have HA : Hid (Aft w wA) := Lib.hid (by obtain ⟨_, _, _, h⟩ := HS.out; exact h)
      have HBL : Hid (w.heap.size + 1 < wA.heap.size) := Lib.hid (by obtain ⟨_, _, h, _⟩ := HS.out; exact h.lt)
      obtain ⟨g, o, sp, sc, rfl, hg, c0, c1, c2, hs⟩ := HT.out.at_ hlt
      have c0 := HA.out.cell hg c0
      have c1 := HA.out.cell hg c1
      have c2 := HA.out.cell hg c2
      have hg := Nat.lt_of_lt_of_le hg HA.out.size
      have HTK := Lib.hid (fun t k' => laH_take P xs k hlt t k')
      have HLK := Lib.hid (HL.out _ (getD_mem hlt))
      have HOKK := Lib.hid (HOK.out _ (getD_mem hlt))
      have HCB : Hid (∀ t k', laH P (xs.take k) t k' ≤ 100000 * 1000) := Lib.hid fun t k' => Nat.le_trans (laH_bd P (xs.take k) t k' fun x hx => by have := HL.out x (List.mem_of_mem_take hx); omega) (Nat.mul_le_mul_left _ (by rw [List.length_take]; have := HX.out; omega))
      have hk4 : k ≤ 1000 := by have := HX.out; omega
      have hkI : (k : Int) < (xs.length : Int) := by omega
      generalize xs.getD k Txn.zero = t at c0 c1 c2 hs HTK HLK HOKK
      obtain ⟨ti, td, tl⟩ := t
      simp only at c0 c1 c2 hs HTK HLK HOKK
      have HOP : Hid (∀ X, Aft w X → Oprs 0 X (.slice sp tl.length sc) tl) := Lib.hid fun X hX => (hs.below hX).2
      have HTI : Hid (-9223372036854775808 ≤ ti ∧ ti ≤ 9223372036854775807) := Lib.hid HOKK.out.1
      have HOKO : Hid (∀ x ∈ tl, Opr.ok x) := Lib.hid HOKK.out.2
      have hln : tl.length ≤ 100 := HLK.out
      clear hs HT HOK HL HLK HOKK HX
      obtain ⟨FA, hFA⟩ : ∃ f : Int → Int → Nat, f = laH P (xs.take k) := ⟨_, rfl⟩
      obtain ⟨bx, hbx⟩ : ∃ b, b = boxT ti td (.slice sp tl.length sc) := ⟨_, rfl⟩
      have HBC : Hid (∀ W : World, W.heap[wA.heap.size]? = some bx → W.cell? ⟨wA.heap.size, 0, none⟩ = some (.int .i64 ti) ∧ W.cell? ⟨wA.heap.size, 1, none⟩ = some (.bool td) ∧ W.cell? ⟨wA.heap.size, 2, none⟩ = some (.slice sp tl.length sc)) := Lib.hid fun W hW => by
        rw [hbx] at hW
        exact (cellsT hW).2.1
      have HI0 : Hid (∀ W, W = wA.alloc (boxT ti td (.slice sp tl.length sc)) → LV w wA W k 0 (fun q => ((FA q.1 q.2 + (if ti = q.1 then laT P td (tl.take 0) q.2 else 0) : Nat) : Int)) bx) := Lib.hid fun W hW => by
        subst hW
        obtain ⟨n, h1, h2, h3⟩ := HS.out
        exact ⟨n, by omega, (h2.lay rfl _).ext fun q => by rw [hFA]; simp [laT, wrN], h3.lay _, by rw [hbx]; exact heap_alloc_at _ _ _ rfl, HBL.out⟩
      rw [← hFA] at HTK HCB
      clear HS hbx hFA
      unfold boxT at HI0
      obtain ⟨tn, htn⟩ : ∃ n, n = tl.length := ⟨_, rfl⟩
      rw [← htn] at c2 HBC hln HOP HI0
      have HTN := Lib.hid htn
      clear htn
      go_wp2_with fail
      clear c0 c1 c2
      go_loopw [21] (fun s21 wr => ∃ j : Nat, s21 = .int .i64 (j : Int) ∧ j ≤ tn ∧ Hid (LV w wA wr k j (fun q => ((FA q.1 q.2 + (if ti = q.1 then laT P td (tl.take j) q.2 else 0) : Nat) : Int)) bx)) (fun s21 _ => tn - (intOf s21).toNat)
      case atStart => exact ⟨0, rfl, Nat.zero_le _, Lib.hid (HI0.out _ rfl)⟩
      case round =>
        clear HI0
        obtain ⟨j, rfl, hj, HS⟩ := hrel
        by_cases hlt2 : j < tn
        · have hltl : j < tl.length := by rw [← HTN.out]; exact hlt2
          have HA2 : Hid (Aft w wr) := Lib.hid (by obtain ⟨_, _, _, h, _⟩ := HS.out; exact h)
          have HSZ : Hid (wA.heap.size < wr.heap.size) := Lib.hid (by obtain ⟨_, _, _, _, h, _⟩ := HS.out; exact heap_lt h)
          obtain ⟨p', c', e, _, hc⟩ := (HOP.out _ HA2.out).open_
          injection e with e1 e2 e3
          subst e1 e3
          clear e2
          obtain ⟨g2, o2, rfl, _, hg2, d0, d1, d2, d3⟩ := hc j hltl
          clear hc
          have HSN := Lib.hid (fun key => laT_take P td tl j hltl key)
          have HOJ := Lib.hid (HOKO.out _ (getD_memO hltl))
          have hjI : (j : Int) < (tn : Int) := by omega
          generalize tl.getD j Opr.zero = x at d0 d1 d2 d3 HSN HOJ
          obtain ⟨xr, xk, xt, xn⟩ := x
          dsimp only at d0 d1 d2 d3 HSN
          have HNO : Hid ((td && !xr && P xk) = false → ∀ q : Int × Int, ((FA q.1 q.2 + (if ti = q.1 then laT P td (tl.take j) q.2 else 0) : Nat) : Int) = ((FA q.1 q.2 + (if ti = q.1 then laT P td (tl.take (j + 1)) q.2 else 0) : Nat) : Int)) := Lib.hid fun e q => by rw [HSN.out, if_neg (show ¬ ((td && !xr && P xk) = true ∧ xk = q.2) from fun h => by rw [e] at h; cases h.1), Nat.add_zero]
          have hwr := HSZ.out
          obtain ⟨X, hX⟩ : ∃ X, X = wr.alloc (boxO ⟨xr, xk, xt, xn⟩) := ⟨_, rfl⟩
          have HLX : Hid (LV w wA X k j (fun q => ((FA q.1 q.2 + (if ti = q.1 then laT P td (tl.take j) q.2 else 0) : Nat) : Int)) bx) := Lib.hid (by rw [hX]; exact HS.out.aft (Aft.one _))
          have HXO : Hid (X.heap[wr.heap.size]? = some (boxO ⟨xr, xk, xt, xn⟩)) := Lib.hid (by rw [hX]; exact heap_alloc_at _ _ _ rfl)
          have HXS : Hid (wr.heap.size < X.heap.size) := Lib.hid (heap_lt HXO.out)
          have HPX := Lib.hid (HP.out X xk (by obtain ⟨_, _, _, h, _⟩ := HLX.out; exact h))
          clear HS
          unfold boxO at hX
          obtain ⟨e0, e1, e2⟩ := HBC.out X (by obtain ⟨_, _, _, _, h, _⟩ := HLX.out; exact h)
          obtain ⟨_, ⟨i0, i1, i2, i3⟩, _⟩ := cellsO HXO.out
          have hxs := HXS.out
          cases td with
          | false =>
            have HR := Lib.hid (HLX.out.next (HNO.out rfl))
            clear HLX HNO HSN HPX
            go_upto_region 8 with fail
            rw [← hX]
            clear hX
            go_wp2_with fail
            go_roundw
            case rel => exact ⟨j + 1, by go_num, by omega, HR⟩
            case measure => simp [intOf]; omega
          | true =>
            cases xr with
            | true =>
              have HR := Lib.hid (HLX.out.next (HNO.out rfl))
              clear HLX HNO HSN HPX
              go_upto_region 8 with fail
              rw [← hX]
              clear hX
              go_wp2_with fail
              go_roundw
              case rel => exact ⟨j + 1, by go_num, by omega, HR⟩
              case measure => simp [intOf]; omega
            | false =>
              go_upto_region 8 with fail
              rw [← hX]
              clear hX
              repeat (first | (refine HPX.out.mono ?_) | go_step)
              rintro e w5 ⟨rfl, ha⟩
              have HL5 := Lib.hid (HLX.out.aft ha)
              have HO5 : Hid (w5.heap[wr.heap.size]? = some (boxO ⟨false, xk, xt, xn⟩)) := Lib.hid ((ha.block _ (heap_lt HXO.out)).trans HXO.out)
              clear ha HPX HLX HXO HXS i0 i1 i2 i3 e0 e1 e2 hxs
              cases hpk : P xk with
              | false =>
                have HR := Lib.hid (HL5.out.next (HNO.out (by rw [hpk]; rfl)))
                clear HL5 HNO HSN hpk HO5
                go_wp2_with fail
                go_roundw
                case rel => exact ⟨j + 1, by go_num, by omega, HR⟩
                case measure => simp [intOf]; omega
              | true =>
                obtain ⟨b9, hb9⟩ : ∃ b, b = wr.heap.size := ⟨_, rfl⟩
                rw [← hb9] at HO5
                have HB9 : Hid (w.heap.size + 1 < b9 ∧ wA.heap.size ≠ w.heap.size + 1) := Lib.hid ⟨by rw [hb9]; have := HSZ.out; have := HBL.out; omega, by have := HBL.out; omega⟩
                obtain ⟨m, hm⟩ : ∃ m : Nat, m = FA ti xk + laT P true (tl.take j) xk := ⟨_, rfl⟩
                have hmb : m ≤ 100000 * 1000 + 100 := by
                  have h1 := HCB.out ti xk
                  have h2 := laT_le P true (tl.take j) xk
                  have h3 : (tl.take j).length ≤ 100 := by rw [List.length_take]; omega
                  omega
                have HSN2 := Lib.hid (bump_f FA (laT P true (tl.take j)) (laT P true (tl.take (j + 1))) ti xk (fun key => by rw [HSN.out, hpk]; simp))
                obtain ⟨F0, hF0⟩ : ∃ F : Int × Int → Int, F = fun q => ((FA q.1 q.2 + (if ti = q.1 then laT P true (tl.take j) q.2 else 0) : Nat) : Int) := ⟨_, rfl⟩
                obtain ⟨F1, hF1⟩ : ∃ F : Int × Int → Int, F = fun q => ((FA q.1 q.2 + (if ti = q.1 then laT P true (tl.take (j + 1)) q.2 else 0) : Nat) : Int) := ⟨_, rfl⟩
                rw [← hF0] at HL5
                have HL6 : Hid (LV w wA w5.drew k j F0 bx ∧ w5.drew.heap[b9]? = some (boxO ⟨false, xk, xt, xn⟩)) := Lib.hid ⟨HL5.out.aft ((Aft.refl _).drew 1), HO5.out⟩
                have hw : IntKind.i64.wrap ((m : Int) + 1) = (m : Int) + 1 := by rw [IntKind.wrap_i64] <;> omega
                obtain ⟨n, hn, hml, hbz, hba, _⟩ := HL6.out.1
                have HN := Lib.hid hn
                have HBX : Hid (BumpL w5.drew (w.heap.size + 1) n F0 F1 ti xk (m : Int)) := Lib.hid (ml_bump hml (by simp only [maxLen]; omega) HTI.out HOJ.out.1 ⟨by omega, by omega⟩ (by rw [hF0, hm]; exact HSN2.out.2.2) (by rw [hF1, hm]; exact HSN2.out.2.1) (fun q hq => by rw [hF0, hF1]; exact HSN2.out.1 q hq))
                have HCK : Hid (∀ Z, w5.drew.grownBy Z (some (w.heap.size + 1)) → Z.cell? ⟨wA.heap.size, 0, none⟩ = some (.int .i64 ti) ∧ Z.cell? ⟨b9, 1, none⟩ = some (.int .i64 xk)) := Lib.hid fun Z hZ => by
                  have h1 := (hZ.block _ (heap_lt hba) (fun e => by injection e with e; exact HB9.out.2 e)).trans hba
                  have h2 := (hZ.block _ (heap_lt HL6.out.2) (fun e => by injection e with e; have := HB9.out.1; omega)).trans HL6.out.2
                  exact ⟨(HBC.out Z h1).1, (cellsO h2).2.1.2.1⟩
                have HR : Hid (∀ W, w5.drew.grownBy W (some (w.heap.size + 1)) → ML W (w.heap.size + 1) (n + 1) F1 → LV w wA W k (j + 1) (fun q => ((FA q.1 q.2 + (if ti = q.1 then laT P true (tl.take (j + 1)) q.2 else 0) : Nat) : Int)) bx) := Lib.hid fun W hg h2 => by
                  rw [hF1] at h2
                  exact ⟨n + 1, by omega, h2, Below.grown hbz hg hbz.size (fun q hq => by injection hq with hq; omega), (hg.block _ (heap_lt hba) (fun e => by injection e with e; exact HB9.out.2 e)).trans hba, HBL.out⟩
                obtain ⟨f0, f1, f2⟩ := HBC.out w5 (by obtain ⟨_, _, _, _, h, _⟩ := HL5.out; exact h)
                have H0 : Hid (w5.drew.cell? ⟨wA.heap.size, 0, none⟩ = some (.int .i64 ti) ∧ w5.drew.cell? ⟨b9, 1, none⟩ = some (.int .i64 xk)) := Lib.hid (HCK.out _ ⟨rfl, rfl, rfl, Nat.le_refl _, fun _ _ _ => rfl⟩)
                clear HL5 HNO HSN HSN2 hm hmb HL6 hn hml hbz hba HO5 hF0 hF1 f0 f1 f2 hpk HB9
                go_upto_region 9 with fail
                try rw [← hb9]
                clear hb9
                obtain ⟨XD, hXD⟩ : ∃ W, W = w5.drew := ⟨_, rfl⟩
                rw [← hXD] at HBX HCK HR H0
                refine wp_region_held_drew (S := fun Z => Z.cell? ⟨wA.heap.size, 0, none⟩ = some (.int .i64 ti) ∧ Z.cell? ⟨b9, 1, none⟩ = some (.int .i64 xk)) (by kernel_rfl) (hXD ▸ H0.out) (fun hHeld0 => ?_)
                rw [← hXD] at hHeld0 ⊢
                clear hXD H0
                refine wpAnyH_take (i := 0) (v := ?_) rfl (by kernel_rfl) (by kernel_rfl) (by kernel_rfl) (fun _ _ _ h => h) (Or.inl ⟨by rfl, ?yr0⟩) (by assumption) ?qr0
                case yr0 => (intro wz hSw; (try dsimp only at hSw); go_simp <;> with_reducible rfl)
                try simp only [Act.put, List.getElem_toArray, List.getElem_cons_zero, List.setIfInBounds_toArray, List.set_cons_zero, List.set_cons_succ]
                refine wpAnyH_take (i := 1) (v := ?_) rfl (by kernel_rfl) (by kernel_rfl) (by kernel_rfl) (fun _ _ _ h => h) (Or.inl ⟨by rfl, ?yr1⟩) (by assumption) ?qr1
                case yr1 => (intro wz hSw; (try dsimp only at hSw); go_simp <;> with_reducible rfl)
                try simp only [Act.put, List.getElem_toArray, List.getElem_cons_zero, List.getElem_cons_succ, List.setIfInBounds_toArray, List.set_cons_zero, List.set_cons_succ]
                refine wpAnyH_take (i := 2) (v := ?_) rfl (by kernel_rfl) (by kernel_rfl) (by kernel_rfl) (fun _ _ _ h => h) (Or.inl ⟨by rfl, ?yr2⟩) (by assumption) ?qr2
                case yr2 => (intro wz hSw; (try dsimp only at hSw); go_simp <;> with_reducible rfl)
                try simp only [Act.put, List.getElem_toArray, List.getElem_cons_zero, List.getElem_cons_succ, List.setIfInBounds_toArray, List.set_cons_zero, List.set_cons_succ]
                refine wpAnyH_take (i := 3) (v := ?_) rfl (by kernel_rfl) (by kernel_rfl) (by kernel_rfl) (fun _ _ _ h => h) (Or.inl ⟨by rfl, ?yr3⟩) (by assumption) ?qr3
                case yr3 => (intro wz hSw; (try dsimp only at hSw); go_simp <;> with_reducible rfl)
                try simp only [Act.put, List.getElem_toArray, List.getElem_cons_zero, List.getElem_cons_succ, List.setIfInBounds_toArray, List.set_cons_zero, List.set_cons_succ]
                refine wpAnyH_take (i := 4) (v := ?_) rfl (by kernel_rfl) (by kernel_rfl) (by kernel_rfl) (fun _ _ _ h => h) (Or.inl ⟨by rfl, ?yr4⟩) (by assumption) ?qr4
                case yr4 => (intro wz hSw; (try dsimp only at hSw); go_simp <;> with_reducible rfl)
                try simp only [Act.put, List.getElem_toArray, List.getElem_cons_zero, List.getElem_cons_succ, List.setIfInBounds_toArray, List.set_cons_zero, List.set_cons_succ]
                refine wpAnyH_take (i := 5) (v := ?_) rfl (by kernel_rfl) (by kernel_rfl) (by kernel_rfl) (fun _ _ _ h => h) (Or.inl ⟨by rfl, ?yr5⟩) (by assumption) ?qr5
                case yr5 => (intro wz hSw; (try dsimp only at hSw); go_simp <;> with_reducible rfl)
                try simp only [Act.put, List.getElem_toArray, List.getElem_cons_zero, List.getElem_cons_succ, List.setIfInBounds_toArray, List.set_cons_zero, List.set_cons_succ]
                obtain ⟨q0, st, w1, r1, r3, r2, w3, r4, r5, r6⟩ := HBX.out
                have HS0 := Lib.hid q0
                have HS1 := Lib.hid r2
                have HR1 := Lib.hid r1
                have HR4 := Lib.hid r4
                have HC1 := Lib.hid (HCK.out w1 r3)
                have HC3 := Lib.hid (HCK.out w3 (World.grownBy.trans r3 r6))
                have HMF := Lib.hid r5
                have HG := Lib.hid (World.grownBy.trans r3 r6)
                clear q0 r1 r2 r3 r4 r5 r6 HBX HCK
                refine wpAnyH_ready (rs := [6, 8]) (by kernel_rfl) (by simp) ?_
                refine AllReadyH.cons rfl (fun K hK => ?ordrA) ?restrA
                case ordrA =>
                  refine step_lookup rfl (.tmp 38) (.tmp 43) rfl (b := w.heap.size + 1) (key := .agg #[.int .i64 ti, .int .i64 xk]) (by simp [Act.eval]) (by simp [Act.eval]) HS0.out ?_
                  refine hK.out _ _ hHeld0 (fun hHeldL => ?_)
                  clear hK K
                  try simp only [Act.put, List.getElem_toArray, List.getElem_cons_zero, List.getElem_cons_succ, List.setIfInBounds_toArray, List.set_cons_zero, List.set_cons_succ]
                  refine wpAnyH_take (i := 7) (v := ?_) rfl (by kernel_rfl) (by kernel_rfl) (by kernel_rfl) (fun _ _ _ h => h) (Or.inl ⟨by rfl, ?yra7⟩) (by assumption) ?qra7
                  case yra7 => (intro wz hSw; (try dsimp only at hSw); go_simp <;> with_reducible rfl)
                  try simp only [Act.put, List.getElem_toArray, List.getElem_cons_zero, List.getElem_cons_succ, List.setIfInBounds_toArray, List.set_cons_zero, List.set_cons_succ]
                  clear hHeldL
                  refine wpAnyH_ready (rs := [8]) (by kernel_rfl) (by simp) ?_
                  refine AllReadyH.cons rfl (fun K hK => ?_) AllReadyH.nil
                  refine Mp.step_entry rfl (.tmp 38) (.tmp 43) rfl (b := w.heap.size + 1) (key := .agg #[.int .i64 ti, .int .i64 xk]) (by simp [Act.eval]) (by simp [Act.eval]) HR1.out ?_
                  refine hK.out _ _ HC1.out (fun hHeldE => ?_)
                  clear hK K
                  try simp only [Act.put, List.getElem_toArray, List.getElem_cons_zero, List.getElem_cons_succ, List.setIfInBounds_toArray, List.set_cons_zero, List.set_cons_succ]
                  refine wpAnyH_take (i := 9) (v := ?_) rfl (by kernel_rfl) (by kernel_rfl) (by kernel_rfl) (fun _ _ _ h => h) (Or.inl ⟨by rfl, ?yrc9⟩) (by assumption) ?qrc9
                  case yrc9 => (intro wz hSw; (try dsimp only at hSw); go_simp <;> with_reducible rfl)
                  try simp only [Act.put, List.getElem_toArray, List.getElem_cons_zero, List.getElem_cons_succ, List.setIfInBounds_toArray, List.set_cons_zero, List.set_cons_succ]
                  refine wpAnyH_ready (rs := [10]) (by kernel_rfl) (by simp) ?_
                  refine AllReadyH.cons rfl (fun K hK => ?_) AllReadyH.nil
                  refine Mp.step_entryStore rfl (.tmp 38) (.tmp 47) (.tmp 45) rfl (b := w.heap.size + 1) (st := goInt st) (val := .int .i64 ((m : Int) + 1)) (by simp [Act.eval]) (by simp [Act.eval, goInt]) (by simp [Act.eval]) HR4.out ?_
                  refine hK.out _ _ HC3.out (fun hHeldS => ?_)
                  clear hK K
                  try simp only [Act.put, List.getElem_toArray, List.getElem_cons_zero, List.getElem_cons_succ]
                  refine wpAnyH_done (by kernel_rfl) ?_ _
                  clear hHeld0 hHeldE hHeldS HC1 HC3 HS0 HS1 HR1 HR4
                  have HST := Lib.hid (HR.out w3 HG.out HMF.out)
                  clear HMF HG HR HN
                  go_wp2_with fail
                  go_roundw
                  case rel => exact ⟨j + 1, by go_num, by omega, HST⟩
                  case measure => simp [intOf]; omega
                refine AllReadyH.cons rfl (fun K hK => ?ordrB) AllReadyH.nil
                case ordrB =>
                  refine Mp.step_entry rfl (.tmp 38) (.tmp 43) rfl (b := w.heap.size + 1) (key := .agg #[.int .i64 ti, .int .i64 xk]) (by simp [Act.eval]) (by simp [Act.eval]) HR1.out ?_
                  refine hK.out _ _ HC1.out (fun hHeldE => ?_)
                  clear hK K
                  try simp only [Act.put, List.getElem_toArray, List.getElem_cons_zero, List.getElem_cons_succ, List.setIfInBounds_toArray, List.set_cons_zero, List.set_cons_succ]
                  refine wpAnyH_take (i := 9) (v := ?_) rfl (by kernel_rfl) (by kernel_rfl) (by kernel_rfl) (fun _ _ _ h => h) (Or.inl ⟨by rfl, ?yrd9⟩) (by assumption) ?qrd9
                  case yrd9 => (intro wz hSw; (try dsimp only at hSw); go_simp <;> with_reducible rfl)
                  try simp only [Act.put, List.getElem_toArray, List.getElem_cons_zero, List.getElem_cons_succ, List.setIfInBounds_toArray, List.set_cons_zero, List.set_cons_succ]
                  refine wpAnyH_ready (rs := [6]) (by kernel_rfl) (by simp) ?_
                  refine AllReadyH.cons rfl (fun K hK => ?_) AllReadyH.nil
                  refine step_lookup rfl (.tmp 38) (.tmp 43) rfl (b := w.heap.size + 1) (key := .agg #[.int .i64 ti, .int .i64 xk]) (by simp [Act.eval]) (by simp [Act.eval]) HS1.out ?_
                  refine hK.out _ _ hHeldE (fun hHeldL => ?_)
                  clear hK K
                  try simp only [Act.put, List.getElem_toArray, List.getElem_cons_zero, List.getElem_cons_succ, List.setIfInBounds_toArray, List.set_cons_zero, List.set_cons_succ]
                  refine wpAnyH_take (i := 7) (v := ?_) rfl (by kernel_rfl) (by kernel_rfl) (by kernel_rfl) (fun _ _ _ h => h) (Or.inl ⟨by rfl, ?yrb7⟩) (by assumption) ?qrb7
                  case yrb7 => (intro wz hSw; (try dsimp only at hSw); go_simp <;> with_reducible rfl)
                  try simp only [Act.put, List.getElem_toArray, List.getElem_cons_zero, List.getElem_cons_succ, List.setIfInBounds_toArray, List.set_cons_zero, List.set_cons_succ]
                  clear hHeldL
                  refine wpAnyH_ready (rs := [10]) (by kernel_rfl) (by simp) ?_
                  refine AllReadyH.cons rfl (fun K hK => ?_) AllReadyH.nil
                  refine Mp.step_entryStore rfl (.tmp 38) (.tmp 47) (.tmp 45) rfl (b := w.heap.size + 1) (st := goInt st) (val := .int .i64 ((m : Int) + 1)) (by simp [Act.eval]) (by simp [Act.eval, goInt]) (by simp [Act.eval]) HR4.out ?_
                  refine hK.out _ _ HC3.out (fun hHeldS => ?_)
                  clear hK K
                  try simp only [Act.put, List.getElem_toArray, List.getElem_cons_zero, List.getElem_cons_succ]
                  refine wpAnyH_done (by kernel_rfl) ?_ _
                  clear hHeld0 hHeldE hHeldS HC1 HC3 HS0 HS1 HR1 HR4
                  have HST := Lib.hid (HR.out w3 HG.out HMF.out)
                  clear HMF HG HR HN
                  go_wp2_with fail
                  go_roundw
                  case rel => exact ⟨j + 1, by go_num, by omega, HST⟩
                  case measure => simp [intOf]; omega
        · have hje : j = tn := by omega
          have HR : Hid (LW P xs w wr (k + 1)) := Lib.hid (by
            obtain ⟨n, h1, h2, h3, _⟩ := HS.out
            exact ⟨n, by omega, h2.ext fun q => by rw [HTK.out, hje, HTN.out, List.take_length], h3⟩)
          clear HS hje
          go_wp2_with fail
          go_roundw
          case rel => exact ⟨k + 1, by go_num, by omega, HR⟩
          case measure => simp [intOf]; omega
    · have hke : k = xs.length := by omega
      have HR : Hid (∃ n, ML wA (w.heap.size + 1) n (fun q => ((laH P xs q.1 q.2 : Nat) : Int)) ∧ Aft w wA) := Lib.hid (by
        obtain ⟨n, h1, h2, h3⟩ := HS.out
        rw [hke, List.take_length] at h2
        exact ⟨n, h2, h3⟩)
      clear HS HT HOK HL hke
      go_wp2_with fail
      go_ret
      obtain ⟨n, h2, h3⟩ := HR.out
      exact ⟨_, n, rfl, by omega, h2, h3⟩
end Go.Proofs.YtcmafmdcgkpagaaGreat.Dg
namespace Go.Proofs.YtcmafmdcgkpagaaGreat.Dg
open Go.ChangeShapes Go.WideShapes Go.ChangeAt Go.RowKit Base F Tx Hi Off
/-- What count leaves. -/
def CtP (h : Hist) (P : Int → Bool) (w : World) (e : Ending) (w' : World) : Prop := ∃ b n, e = .returned (.map (some b)) ∧ n ≤ 1000 * h.ords.length + 200 * h.txs.length ∧ ME w' b n (fun e => ((cntE h P e : Nat) : Int)) ∧ Aft w w'
abbrev MRn (W : World) (b r n : Nat) (f : Int × Int → Option Int) (left : Int × Int → Bool) (cnt : Nat) : Prop := Mp.MR Tryz.prog 77 3 gH W b r n f left cnt
/-- What is carried: the counts, the numbers of versions, who is next, the history's box. -/
structure CU (w : World) (ba bl nl bn nn : Nat) (LA : Int × Int → Int) (NX : Int × Int → Option Int) (bh : Obj) (wr : World) (n1 : Nat) (F : Edg → Int) : Prop where
  me : ME wr ba n1 F
  ml : ML wr bl nl LA
  mn : MN wr bn nn NX
  bx : wr.heap[w.heap.size]? = some bh
  aft : Aft w wr
  ord : w.heap.size < ba ∧ ba < bl ∧ bl < bn
section
variable {w wr Y : World} {ba bl nl bn nn n1 n1' : Nat} {LA : Int × Int → Int} {NX : Int × Int → Option Int} {bh : Obj} {F F' : Edg → Int}
theorem CU.after (h : CU w ba bl nl bn nn LA NX bh wr n1 F) (ha : Aft wr Y) : CU w ba bl nl bn nn LA NX bh Y n1 F :=
  ⟨h.me.below ha, h.ml.below ha, h.mn.below ha, (ha.block _ (heap_lt h.bx)).trans h.bx, h.aft.trans ha, h.ord⟩
theorem CU.turn (h : CU w ba bl nl bn nn LA NX bh wr n1 F) (hg : wr.grownBy Y (some ba)) (hm : ME Y ba n1' F') : CU w ba bl nl bn nn LA NX bh Y n1' F' :=
  ⟨hm, h.ml.kept hg (fun e => by injection e with e; have := h.ord; omega), h.mn.kept hg (fun e => by injection e with e; have := h.ord; omega), (hg.block _ (heap_lt h.bx) (fun e => by injection e with e; have := h.ord; omega)).trans h.bx, Below.grown h.aft hg h.aft.size (fun q hq => by injection hq with hq; have := h.ord; omega), h.ord⟩
theorem CU.ext (h : CU w ba bl nl bn nn LA NX bh wr n1 F) (he : ∀ e, F e = F' e) (hn : n1 ≤ n1') : CU w ba bl nl bn nn LA NX bh wr n1' F' := ⟨(h.me.ext he).mono hn, h.ml, h.mn, h.bx, h.aft, h.ord⟩
end
/-- In the loop over who is next: the iterator too. -/
def CT (w : World) (ba bl nl bn r nn C0 : Nat) (LA : Int × Int → Int) (NX : Int × Int → Option Int) (bh : Obj) (wr : World) (left : Int × Int → Bool) (cnt n1 : Nat) (F : Edg → Int) : Prop :=
  CU w ba bl nl bn nn LA NX bh wr n1 F ∧ MRn wr bn r nn NX left cnt ∧ n1 + cnt ≤ C0 ∧ bn < r
section
variable {w wr Y : World} {ba bl nl bn r nn C0 cnt cnt' n1 n1' : Nat} {LA : Int × Int → Int} {NX : Int × Int → Option Int} {bh : Obj} {left left' : Int × Int → Bool} {F F' : Edg → Int}
theorem CT.lay (h : CT w ba bl nl bn r nn C0 LA NX bh wr left cnt n1 F) (o : Obj) : CT w ba bl nl bn r nn C0 LA NX bh (wr.alloc o) left cnt n1 F :=
  ⟨h.1.after (Aft.one o), h.2.1.kept (World.grownBy_alloc wr o none) (by simp) (by simp), h.2.2⟩
theorem CT.drew (h : CT w ba bl nl bn r nn C0 LA NX bh wr left cnt n1 F) : CT w ba bl nl bn r nn C0 LA NX bh wr.drew left cnt n1 F :=
  ⟨h.1.after ((Aft.refl _).drew 1), h.2.1.kept (row := none) ⟨rfl, rfl, rfl, Nat.le_refl _, fun _ _ _ => rfl⟩ (by simp) (by simp), h.2.2⟩
theorem CT.step (h : CT w ba bl nl bn r nn C0 LA NX bh wr left cnt n1 F) (hg : wr.grownBy Y (some r)) (hm : MRn Y bn r nn NX left' cnt') (hc : cnt' < cnt) (he : ∀ e, F e = F' e) : CT w ba bl nl bn r nn C0 LA NX bh Y left' cnt' n1 F' := by
  have ho := h.1.ord
  have hr := h.2.2.2
  refine ⟨⟨(h.1.me.kept hg (fun e => by injection e with e; omega)).ext he, h.1.ml.kept hg (fun e => by injection e with e; omega), hm.map, (hg.block _ (heap_lt h.1.bx) (fun e => by injection e with e; omega)).trans h.1.bx, Below.grown h.1.aft hg h.1.aft.size (fun q hq => by injection hq with hq; omega), ho⟩, hm, ?_, hr⟩
  have := h.2.2.1
  omega
theorem CT.turn (h : CT w ba bl nl bn r nn C0 LA NX bh wr left cnt n1 F) (hg : wr.grownBy Y (some ba)) (hm : ME Y ba (n1 + 1) F') (hl : n1 + 1 + cnt ≤ C0) : CT w ba bl nl bn r nn C0 LA NX bh Y left cnt (n1 + 1) F' :=
  ⟨h.1.turn hg hm, h.2.1.kept hg (fun e => by injection e with e; have := h.1.ord; omega) (fun e => by injection e with e; have := h.1.ord; have := h.2.2.2; omega), hl, h.2.2.2⟩
end
section
variable {P : Program} {w : World} {ops : Array Oper} {o : Oper} {a : Act} {K : Act → World → Prop} {Q : Exit → Act → World → Prop} {E : Prop} {t : TypeId} {b : Nat}
theorem step_lookupG (hw : Region.wanted o (yielded ops a.tmps) = true) (m x : Operand) (hop : o.op = Op.lookup t m x false) {key v : Value} (hm : a.eval m = .map (some b)) (hx : a.eval x = key) (hr : (Instr.lookup t (.map (some b)) key false).run P w = .ok v w) (hK : K (a.put o.dst v) w) :
    if Region.wanted o (yielded ops a.tmps) = true then Oper.wp P o a w K Q else E := by
  rw [if_pos hw]
  unfold Oper.wp
  simp [execOp, hop, hm, hx, hr, Result.andThen]
  exact hK
end
set_option maxRecDepth 100000 in
set_option maxHeartbeats 16000000 in
theorem count_any {v u fv : Value} {h : Hist} (w : World) (hh : HistV w v u h) (hs : HistSm h) {F : Nat} {bd lb : Array Value} (P : Int → Bool) (hfv : fv = .func (.func F) bd lb) (eg : ∀ args w, (callFunc F args).run Tryz.prog w = .ok (.enter F args) w)
    (hP : ∀ (X : World) (k : Int), Aft w X → Calls Tryz.prog F (bd ++ #[.int .i64 k] ++ lb) X (BoolNew (P k) X)) : Calls Tryz.prog 21 #[.agg #[v, u], fv] w (CtP h P w) := by
  subst hfv
  have hmm := @run_makeMap Tryz.prog
  obtain ⟨p, c, hv, _, hlm⟩ := hh.1.form
  obtain ⟨q, d, hu, _, hlm2⟩ := hh.2.form
  subst hv hu
  obtain ⟨bh, hbh⟩ : ∃ o : Obj, o = .cells #[.slice p h.txs.length c, .slice q h.ords.length d] 25 := ⟨_, rfl⟩
  obtain ⟨X, hX⟩ : ∃ X, X = (w.alloc (.cells #[.slice p h.txs.length c, .slice q h.ords.length d] 25)).alloc (.map #[] 0) := ⟨_, rfl⟩
  have HA : Hid (Aft w X) := Lib.hid (by rw [hX]; exact (Aft.one _).lay _)
  have HB : Hid (∀ W : World, W.heap[w.heap.size]? = some bh → W.cell? ⟨w.heap.size, 0, none⟩ = some (.slice p h.txs.length c) ∧ W.cell? ⟨w.heap.size, 1, none⟩ = some (.slice q h.ords.length d)) := Lib.hid fun W hW => by
    rw [hbh] at hW
    simp [World.cell?, hW]
  have HXB : Hid (X.heap[w.heap.size]? = some bh ∧ ME X (w.heap.size + 1) 0 (fun _ => 0)) := Lib.hid ⟨by rw [hX, hbh]; exact heap_alloc_lt _ _ _ _ (heap_alloc_at _ _ _ rfl), by rw [hX]; exact Mp.MX.made (heap_alloc_at _ _ _ (by simp))⟩
  have HR := Lib.hid (Hi.right_any X (hh.below HA.out) (sm_ok hs))
  have HSM := Lib.hid hs
  have HH : Hid (∀ W, Aft w W → HistV W (.slice p h.txs.length c) (.slice q h.ords.length d) h) := Lib.hid fun W hW => hh.below hW
  have HP := Lib.hid hP
  have HEG := Lib.hid eg
  have HNX : Hid (∀ W, Aft w W → rightH h = true → Calls Tryz.prog 40 #[.agg #[.slice p h.txs.length c, .slice q h.ords.length d], .func (.func F) bd lb] W (NxP P h.ords W)) := Lib.hid fun W hW hr => nextOf_any W (hh.below hW) hs (ords_len hs hr) P rfl eg (fun X k hX => hP X k (hW.trans hX))
  have HLA : Hid (∀ W, Aft w W → Calls Tryz.prog 39 #[.agg #[.slice p h.txs.length c, .slice q h.ords.length d], .func (.func F) bd lb] W (LaP P h.txs W)) := Lib.hid fun W hW => lastOf_any W (hh.below hW) hs P rfl eg (fun X k hX => hP X k (hW.trans hX))
  have HOK : Hid (okN (nxH P h.ords)) := Lib.hid (nxH_ok P _ hs.ords)
  have HOL := Lib.hid (fun hr => ords_len hs hr)
  have HCN : Hid (∀ e, cntE h P e = if rightH h then wwF (nxH P h.ords) (fun _ => false) e + sumT (nxH P h.ords) (fun q => ((laH P h.txs q.1 q.2 : Nat) : Int)) P h.txs e else 0) := Lib.hid fun e => rfl
  have HE : Hid (∀ b n w', n ≤ 1000 * h.ords.length + 200 * h.txs.length → ME w' b n (fun e => ((cntE h P e : Nat) : Int)) → Aft w w' → CtP h P w (.returned (.map (some b))) w') := Lib.hid fun b n w' h0 h1 h2 => ⟨b, n, rfl, h0, h1, h2⟩
  generalize CtP h P w = Post at HE ⊢
  generalize cntE h P = CE at HE HCN
  obtain ⟨n1, hn1⟩ : ∃ n, n = h.txs.length := ⟨_, rfl⟩
  obtain ⟨n2, hn2⟩ : ∃ n, n = h.ords.length := ⟨_, rfl⟩
  rw [← hn1] at hX HB hlm HR HH HNX HLA hbh
  rw [← hn2] at hX HB hlm2 HR HH HNX HLA hbh
  have HN1 := Lib.hid hn1
  have HN2 := Lib.hid hn2
  rw [← hn1, ← hn2]
  clear hh hs hP hn1 hn2
  obtain ⟨c0, c1⟩ := HB.out X HXB.out.1
  have hbl := heap_lt HXB.out.1
  generalize rightH h = rr at HR HNX HOL HCN
  cases rr with
  | false =>
    have HFIN : Hid (∀ W, Aft X W → Post (.returned (.map (some (w.heap.size + 1)))) W) := Lib.hid fun W hW => HE.out _ _ W (Nat.zero_le _) ((HXB.out.2.below hW).ext fun e => by rw [HCN.out]; rfl) (HA.out.trans hW)
    clear HE HCN HNX HLA HOK HOL HXB
    go_enter Tryz.func21, Tryz.ntmps21
    go_wp2_with fail
    clear hmm
    rw [← hX]
    clear hX
    go_wp2_with fail
    refine HR.out.mono ?_
    rintro e w2 ⟨rfl, ha⟩
    have HF2 := Lib.hid (HFIN.out w2 ha)
    clear ha HFIN HR c0 c1
    go_wp2_with fail
    exact HF2.out
  | true =>
    have HCN2 : Hid (∀ e, CE e = wwF (nxH P h.ords) (fun _ => false) e + sumT (nxH P h.ords) (fun q => ((laH P h.txs q.1 q.2 : Nat) : Int)) P h.txs e) := Lib.hid fun e => by rw [HCN.out]; rfl
    have HNX2 := Lib.hid (fun W hW => HNX.out W hW rfl)
    have HOL2 : Hid (h.ords.length ≤ 100000) := Lib.hid (HOL.out rfl)
    clear HCN HNX HOL
    obtain ⟨NX, hNX⟩ : ∃ f, f = nxH P h.ords := ⟨_, rfl⟩
    obtain ⟨LA, hLA⟩ : ∃ f : Int × Int → Int, f = fun q => ((laH P h.txs q.1 q.2 : Nat) : Int) := ⟨_, rfl⟩
    rw [← hNX] at HOK
    rw [← hNX, ← hLA] at HCN2
    have HNXE := Lib.hid hNX
    have HLAE := Lib.hid hLA
    clear hNX hLA
    go_enter Tryz.func21, Tryz.ntmps21
    go_wp2_with fail
    clear hmm
    rw [← hX]
    clear hX
    go_wp2_with fail
    refine HR.out.mono ?_
    rintro e w2 ⟨rfl, ha⟩
    obtain ⟨W0, hW0⟩ : ∃ W, W = w2.drew := ⟨_, rfl⟩
    have HA0 : Hid (Aft X W0) := Lib.hid (by rw [hW0]; exact ha.trans ((Aft.refl _).drew 1))
    obtain ⟨c0, c1⟩ := HB.out w2 ((ha.block _ (heap_lt HXB.out.1)).trans HXB.out.1)
    have hbl := Nat.lt_of_lt_of_le hbl ha.size
    have HSZ : Hid (w.heap.size + 2 ≤ W0.heap.size) := Lib.hid (Nat.le_trans HXB.out.2.lt HA0.out.size)
    have HCZ : Hid (∀ Z, Aft W0 Z → Z.cell? ⟨w.heap.size, 0, none⟩ = some (.slice p n1 c) ∧ Z.cell? ⟨w.heap.size, 1, none⟩ = some (.slice q n2 d)) := Lib.hid fun Z hZ => HB.out Z (((HA0.out.trans hZ).block _ (heap_lt HXB.out.1)).trans HXB.out.1)
    clear ha HR
    go_upto_region 4 with fail
    refine wp_region_held_drew (S := fun Z => Z.cell? ⟨w.heap.size, 0, none⟩ = some (.slice p n1 c) ∧ Z.cell? ⟨w.heap.size, 1, none⟩ = some (.slice q n2 d)) (by kernel_rfl) (hW0 ▸ HCZ.out _ (Aft.refl _)) (fun hHeld0 => ?_)
    rw [← hW0] at hHeld0 ⊢
    clear hW0
    refine wpAnyH_take (i := 0) (v := ?_) rfl (by kernel_rfl) (by kernel_rfl) (by kernel_rfl) (fun _ _ _ h => h) (Or.inl ⟨by rfl, ?yf0⟩) (by assumption) ?qf0
    case yf0 => (intro wz hSw; (try dsimp only at hSw); go_simp <;> with_reducible rfl)
    try simp only [Act.put, List.getElem_toArray, List.getElem_cons_zero, List.setIfInBounds_toArray, List.set_cons_zero, List.set_cons_succ]
    refine wpAnyH_take (i := 1) (v := ?_) rfl (by kernel_rfl) (by kernel_rfl) (by kernel_rfl) (fun _ _ _ h => h) (Or.inl ⟨by rfl, ?yf1⟩) (by assumption) ?qf1
    case yf1 => (intro wz hSw; (try dsimp only at hSw); go_simp <;> with_reducible rfl)
    try simp only [Act.put, List.getElem_toArray, List.getElem_cons_zero, List.getElem_cons_succ, List.setIfInBounds_toArray, List.set_cons_zero, List.set_cons_succ]
    refine wpAnyH_take (i := 3) (v := ?_) rfl (by kernel_rfl) (by kernel_rfl) (by kernel_rfl) (fun _ _ _ h => h) (Or.inl ⟨by rfl, ?yf3⟩) (by assumption) ?qf3
    case yf3 => (intro wz hSw; (try dsimp only at hSw); go_simp <;> with_reducible rfl)
    try simp only [Act.put, List.getElem_toArray, List.getElem_cons_zero, List.getElem_cons_succ, List.setIfInBounds_toArray, List.set_cons_zero, List.set_cons_succ]
    refine wpAnyH_take (i := 4) (v := ?_) rfl (by kernel_rfl) (by kernel_rfl) (by kernel_rfl) (fun _ _ _ h => h) (Or.inl ⟨by rfl, ?yf4⟩) (by assumption) ?qf4
    case yf4 => (intro wz hSw; (try dsimp only at hSw); go_simp <;> with_reducible rfl)
    try simp only [Act.put, List.getElem_toArray, List.getElem_cons_zero, List.getElem_cons_succ, List.setIfInBounds_toArray, List.set_cons_zero, List.set_cons_succ]
    refine wpAnyH_ready (rs := [2]) (by kernel_rfl) (by simp) ?_
    refine AllReadyH.cons rfl (fun K hK => ?_) AllReadyH.nil
    go_simp
    refine (HLA.out W0 (HA.out.trans HA0.out)).mono ?_
    rintro e u1 ⟨bl, nl, rfl, hbl1, hml, hb⟩
    have HM1 : Hid (W0.heap.size ≤ bl ∧ bl < u1.heap.size ∧ ML u1 bl nl LA ∧ Aft W0 u1) := Lib.hid ⟨hbl1, hml.lt, by rw [HLAE.out]; exact hml, hb⟩
    clear hbl1 hml hb
    refine hK.out _ _ (HCZ.out _ HM1.out.2.2.2) (fun hHeld1 => ?_)
    clear hK K
    try simp only [Act.put, List.getElem_toArray, List.getElem_cons_zero, List.getElem_cons_succ, List.setIfInBounds_toArray, List.set_cons_zero, List.set_cons_succ]
    refine wpAnyH_ready (rs := [5]) (by kernel_rfl) (by simp) ?_
    refine AllReadyH.cons rfl (fun K hK => ?_) AllReadyH.nil
    go_simp
    refine (HNX2.out u1 ((HA.out.trans HA0.out).trans HM1.out.2.2.2)).mono ?_
    rintro e u2 ⟨bn, nn, rfl, hbn, hnn, hmn, hb⟩
    have HM2 : Hid (bl < bn ∧ nn ≤ 1000 * n2 ∧ MN u2 bn nn NX ∧ Aft u1 u2) := Lib.hid ⟨Nat.lt_of_lt_of_le HM1.out.2.1 hbn, by rw [HN2.out]; exact hnn, by rw [HNXE.out]; exact hmn, hb⟩
    clear hbn hnn hmn hb
    refine hK.out _ _ (HCZ.out _ (HM1.out.2.2.2.trans HM2.out.2.2.2)) (fun hHeld2 => ?_)
    clear hK K
    try simp only [Act.put, List.getElem_toArray, List.getElem_cons_zero, List.getElem_cons_succ, List.setIfInBounds_toArray, List.set_cons_zero, List.set_cons_succ]
    refine wpAnyH_take (i := 6) (v := ?_) rfl (by kernel_rfl) (by kernel_rfl) (by kernel_rfl) (fun _ _ _ h => h) (Or.inl ⟨by rfl, ?yf6⟩) (by assumption) ?qf6
    case yf6 => (intro wz hSw; (try dsimp only at hSw); go_simp <;> with_reducible rfl)
    try simp only [Act.put, List.getElem_toArray, List.getElem_cons_zero, List.getElem_cons_succ, List.setIfInBounds_toArray, List.set_cons_zero, List.set_cons_succ]
    refine wpAnyH_take (i := 7) (v := ?_) rfl (by kernel_rfl) (by kernel_rfl) (by kernel_rfl) (fun _ _ _ h => h) (Or.inl ⟨by rfl, ?yf7⟩) (by assumption) ?qf7
    case yf7 => (intro wz hSw; (try dsimp only at hSw); go_simp <;> with_reducible rfl)
    try simp only [Act.put, List.getElem_toArray, List.getElem_cons_zero, List.getElem_cons_succ, List.setIfInBounds_toArray, List.set_cons_zero, List.set_cons_succ]
    refine wpAnyH_done (by kernel_rfl) ?_ _
    clear hHeld0 hHeld1 hHeld2
    have HU : Hid (CU w (w.heap.size + 1) bl nl bn nn LA NX bh u2 0 (fun _ => 0)) := Lib.hid ⟨HXB.out.2.below ((HA0.out.trans HM1.out.2.2.2).trans HM2.out.2.2.2), HM1.out.2.2.1.below HM2.out.2.2.2, HM2.out.2.2.1, ((((HA0.out.trans HM1.out.2.2.2).trans HM2.out.2.2.2)).block _ (heap_lt HXB.out.1)).trans HXB.out.1, HA.out.trans ((HA0.out.trans HM1.out.2.2.2).trans HM2.out.2.2.2), by omega, by have := HM1.out.1; have := HSZ.out; omega, HM2.out.1⟩
    have HNN : Hid (nn ≤ 1000 * n2) := Lib.hid HM2.out.2.1
    clear HM1 HM2 HSZ HA0 HCZ HNX2 HLA HXB HA c0 c1 hbl HNXE
    generalize w.heap.size + 1 = ba at HU ⊢
    have HMN := Lib.hid HU.out.mn
    obtain ⟨r, hr⟩ : ∃ r, r = u2.heap.size := ⟨_, rfl⟩
    go_wp2_with (at_range; refine Mp.wp_rangeO Mp.keyedA Tryz.underlying75 rfl (.tmp 26) rfl HMN.out rfl ?_; intro w0 cnt0 hc0 hmr hg0 hs0)
    go_frame
    rw [← hr] at hmr ⊢
    have HT0 : Hid (CT w ba bl nl bn r nn (1000 * n2) LA NX bh w0 (fun x => (NX x).isSome) cnt0 0 (fun e => ((wwF NX (fun x => (NX x).isSome) e : Nat) : Int))) := Lib.hid (by
      have ha : Aft u2 w0 := ⟨hg0.os, hg0.tape, hg0.output, hg0.size, fun i hi => hg0.block i hi (by simp)⟩
      exact ⟨(HU.out.after ha).ext (fun e => by rw [ww_start]; rfl) (Nat.le_refl _), hmr, by have := HNN.out; omega, by rw [hr]; exact HU.out.mn.lt⟩)
    clear hc0 hmr hg0 hs0 hr HU HNN HMN
    go_loopw [9] (fun _ wr => ∃ (left : Int × Int → Bool) (cnt m1 : Nat), Hid (CT w ba bl nl bn r nn (1000 * n2) LA NX bh wr left cnt m1 (fun e => ((wwF NX left e : Nat) : Int)))) (fun _ wr => wr.rangeLeft bn r)
    case atStart => exact ⟨_, _, _, HT0⟩
    case round =>
      clear HT0
      obtain ⟨left, cnt, m1, HS⟩ := hrel
      have HMR := Lib.hid HS.out.2.1
      go_wp2_with (at_next; refine Mp.wp_nextO Mp.keyedA Tryz.underlying3 inv_a (fun x y e => gH_inj e) rfl (.tmp 27) rfl rfl HMR.out ?_ ?_)
      · intro hl
        have HU0 : Hid (CU w ba bl nl bn nn LA NX bh wr (1000 * n2) (fun e => ((wwF NX (fun _ => false) e + sumT NX LA P (h.txs.take 0) e : Nat) : Int))) := Lib.hid (HS.out.1.ext (fun e => by
          rw [ww_end (fun qq z hz => by
            obtain ⟨h1, h2, _⟩ := HOK.out qq z hz
            obtain ⟨kl, hkl⟩ := Mp.key_a qq.1 qq.2 h1 h2
            exact hl qq.1 qq.2 kl hkl) e]
          simp [sumT]) (by have := HS.out.2.2.1; omega))
        clear hl HS HMR
        obtain ⟨c0, c1⟩ := HB.out wr HU0.out.bx
        have hbl := heap_lt HU0.out.bx
        obtain ⟨WW, hWW⟩ : ∃ f, f = wwF NX (fun _ => false) := ⟨_, rfl⟩
        have HWL : Hid (∀ e, WW e ≤ 1) := Lib.hid fun e => by rw [hWW]; exact ww_le _ _ e
        rw [← hWW] at HU0 HCN2
        clear hWW
        have HTX := Lib.hid (HH.out w (Aft.refl w)).1
        clear HH
        go_wp2_with fail
        clear c0 c1 hbl
        go_loopw [50] (fun s50 wr => ∃ k : Nat, s50 = .int .i64 (k : Int) ∧ k ≤ n1 ∧ Hid (CU w ba bl nl bn nn LA NX bh wr (1000 * n2 + 200 * k) (fun e => ((WW e + sumT NX LA P (h.txs.take (k)) e : Nat) : Int)))) (fun s50 _ => n1 - (intOf s50).toNat)
        case atStart => exact ⟨0, rfl, Nat.zero_le _, HU0⟩
        case round =>
          clear HU0
          obtain ⟨k, rfl, hk, HS⟩ := hrel
          obtain ⟨wA, hwA⟩ : ∃ wA, wA = wr := ⟨_, rfl⟩
          subst hwA
          by_cases hlt : k < n1
          · have hltx : k < h.txs.length := by rw [← HN1.out]; exact hlt
            obtain ⟨g, o, sp, sc, rfl, hg, c0, c1, c2, hs⟩ := (show Txs w (.slice _ h.txs.length c) h.txs from by have := HTX.out; rw [HN1.out] at this; exact this).at_ hltx
            have c0 := HS.out.aft.cell hg c0
            have c1 := HS.out.aft.cell hg c1
            have c2 := HS.out.aft.cell hg c2
            have hg := Nat.lt_of_lt_of_le hg HS.out.aft.size
            have HTK := Lib.hid (fun e => sumT_take NX LA P h.txs k hltx e)
            have HLK := Lib.hid (HSM.out.ops _ (getD_mem hltx))
            have HOKK := Lib.hid (HSM.out.txs _ (getD_mem hltx))
            have HFB : Hid (∀ e, WW e + sumT NX LA P (h.txs.take k) e ≤ 200000 * 1000 + 1) := Lib.hid fun e => by
              have h1 := sumT_le NX LA P (h.txs.take k) e (fun x hx => by have := HSM.out.ops x (List.mem_of_mem_take hx); omega)
              have h2 := HWL.out e
              have h3 := HSM.out.num
              rw [List.length_take] at h1
              omega
            have hk4 : k ≤ 1000 := by have := HSM.out.num; omega
            have hkI : (k : Int) < (n1 : Int) := by omega
            generalize h.txs.getD k Txn.zero = t at c0 c1 c2 hs HTK HLK HOKK
            obtain ⟨ti, td, tl⟩ := t
            simp only at c0 c1 c2 hs HTK HLK HOKK
            have HOP : Hid (∀ X, Aft w X → Oprs 0 X (.slice sp tl.length sc) tl) := Lib.hid fun X hX => (hs.below hX).2
            have HTI : Hid (i64 ti) := Lib.hid HOKK.out.1
            have HOKO : Hid (∀ x ∈ tl, Opr.ok x) := Lib.hid HOKK.out.2
            have hln : tl.length ≤ 100 := HLK.out
            clear hs HLK HOKK
            obtain ⟨FT, hFT⟩ : ∃ f : Edg → Nat, f = fun e => WW e + sumT NX LA P (h.txs.take k) e := ⟨_, rfl⟩
            have HFT := Lib.hid hFT
            have HFB2 : Hid (∀ e, FT e ≤ 200000 * 1000 + 1) := Lib.hid (by rw [hFT]; exact HFB.out)
            clear HFB
            obtain ⟨bx, hbx⟩ : ∃ b, b = boxT ti td (.slice sp tl.length sc) := ⟨_, rfl⟩
            have HBC : Hid (∀ W : World, W.heap[wA.heap.size]? = some bx → W.cell? ⟨wA.heap.size, 0, none⟩ = some (.int .i64 ti) ∧ W.cell? ⟨wA.heap.size, 1, none⟩ = some (.bool td) ∧ W.cell? ⟨wA.heap.size, 2, none⟩ = some (.slice sp tl.length sc)) := Lib.hid fun W hW => by
              rw [hbx] at hW
              exact (cellsT hW).2.1
            have HBA : Hid (ba < wA.heap.size ∧ bn < wA.heap.size) := Lib.hid ⟨HS.out.me.lt, HS.out.mn.lt⟩
            have HI0 : Hid (∀ W, W = wA.alloc (boxT ti td (.slice sp tl.length sc)) → CU w ba bl nl bn nn LA NX bh W (1000 * n2 + 200 * k + 2 * 0) (fun e => ((FT e + sumO NX LA P ti td (tl.take (0)) e : Nat) : Int)) ∧ W.heap[wA.heap.size]? = some bx) := Lib.hid fun W hW => by
              subst hW
              exact ⟨(HS.out.after (Aft.one _)).ext (fun e => by rw [hFT]; simp [sumO]) (by omega), by rw [hbx]; exact heap_alloc_at _ _ _ rfl⟩
            clear HS hbx hFT
            unfold boxT at HI0
            obtain ⟨tn, htn⟩ : ∃ n, n = tl.length := ⟨_, rfl⟩
            rw [← htn] at c2 HBC hln HOP HI0
            have HTN := Lib.hid htn
            clear htn
            go_wp2_with fail
            clear c0 c1 c2
            go_loopw [57] (fun s57 wr => ∃ j : Nat, s57 = .int .i64 (j : Int) ∧ j ≤ tn ∧ Hid (CU w ba bl nl bn nn LA NX bh wr (1000 * n2 + 200 * k + 2 * j) (fun e => ((FT e + sumO NX LA P ti td (tl.take (j)) e : Nat) : Int)) ∧ wr.heap[wA.heap.size]? = some bx)) (fun s57 _ => tn - (intOf s57).toNat)
            case atStart => exact ⟨0, rfl, Nat.zero_le _, Lib.hid (HI0.out _ rfl)⟩
            case round =>
              clear HI0
              obtain ⟨j, rfl, hj, HS⟩ := hrel
              by_cases hlt2 : j < tn
              · have hltl : j < tl.length := by rw [← HTN.out]; exact hlt2
                have HSZ : Hid (wA.heap.size < wr.heap.size) := Lib.hid (heap_lt HS.out.2)
                obtain ⟨p', c', e, _, hc⟩ := (HOP.out _ HS.out.1.aft).open_
                injection e with e1 e2 e3
                subst e1 e3
                clear e2
                obtain ⟨g2, o2, rfl, _, hg2, d0, d1, d2, d3⟩ := hc j hltl
                clear hc
                have HSN := Lib.hid (fun e => sumO_take NX LA P ti td tl j hltl e)
                have HOJ := Lib.hid (HOKO.out _ (getD_memO hltl))
                have HFB3 : Hid (∀ e, FT e + sumO NX LA P ti td (tl.take j) e ≤ 1000000000) := Lib.hid fun e => by
                  have h1 := sumO_le NX LA P ti td (tl.take j) e
                  have h2 := HFB2.out e
                  rw [List.length_take] at h1
                  omega
                have hjI : (j : Int) < (tn : Int) := by omega
                generalize tl.getD j Opr.zero = x at d0 d1 d2 d3 HSN HOJ
                obtain ⟨xr, xk, xt, xn⟩ := x
                dsimp only at d0 d1 d2 d3
                have hwr := HSZ.out
                obtain ⟨X, hX⟩ : ∃ X, X = wr.alloc (boxO ⟨xr, xk, xt, xn⟩) := ⟨_, rfl⟩
                obtain ⟨b9, hb9⟩ : ∃ b, b = wr.heap.size := ⟨_, rfl⟩
                have HD : Hid (CU w ba bl nl bn nn LA NX bh X.drew (1000 * n2 + 200 * k + 2 * j) (fun e => ((FT e + sumO NX LA P ti td (tl.take (j)) e : Nat) : Int)) ∧ X.drew.heap[wA.heap.size]? = some bx ∧ X.drew.heap[b9]? = some (boxO ⟨xr, xk, xt, xn⟩)) := Lib.hid (by
                  rw [hX, hb9]
                  exact ⟨(HS.out.1.after (Aft.one _)).after ((Aft.refl _).drew 1), heap_alloc_lt _ _ _ _ HS.out.2, heap_alloc_at _ _ _ rfl⟩)
                have HNO : Hid (rdC LA P ti td ⟨xr, xk, xt, xn⟩ = false → ∀ e : Edg, ((FT e + sumO NX LA P ti td (tl.take j) e : Nat) : Int) = ((FT e + sumO NX LA P ti td (tl.take (j + 1)) e : Nat) : Int)) := Lib.hid fun e0 e => by rw [HSN.out]; unfold rdE; rw [e0]; simp
                have HYES : Hid (rdC LA P ti td ⟨xr, xk, xt, xn⟩ = true → ∀ e : Edg, ((FT e + sumO NX LA P ti td (tl.take j) e : Nat) : Int) + (rdW ti ⟨xr, xk, xt, xn⟩ e : Nat) + (rdR NX ti ⟨xr, xk, xt, xn⟩ e : Nat) = ((FT e + sumO NX LA P ti td (tl.take (j + 1)) e : Nat) : Int)) := Lib.hid fun e0 e => by rw [HSN.out]; unfold rdE; rw [e0]; simp; omega
                have HRC : Hid (rdC LA P ti td ⟨xr, xk, xt, xn⟩ = (td && xr && decide (xt ≠ ti) && P xk && decide (LA (xt, xk) = xn))) := Lib.hid rfl
                have HRDX : Hid (∀ W n, CU w ba bl nl bn nn LA NX bh W n (fun e => ((FT e + sumO NX LA P ti td (tl.take (j)) e : Nat) : Int)) → n + 2 < maxLen → Calls Tryz.prog 41 #[.map (some ba), .int .i64 ti, .agg #[.bool xr, .int .i64 xk, .int .i64 xt, .int .i64 xn], .map (some bn)] W (RdP ba n (fun e => ((FT e + sumO NX LA P ti td (tl.take j) e : Nat) : Int) + (rdW ti ⟨xr, xk, xt, xn⟩ e : Nat) + (rdR NX ti ⟨xr, xk, xt, xn⟩ e : Nat)) W)) := Lib.hid fun W n hU hn => read_any ti ⟨xr, xk, xt, xn⟩ W hU.me hU.mn (by have := hU.ord; omega) hn (fun e => ⟨by omega, by have := HFB3.out e; omega⟩) HOJ.out HTI.out (fun qq z hz => (HOK.out qq z hz).2.2)
                have HLK : Hid (∀ W, ML W bl nl LA → (Instr.lookup 75 (.map (some bl)) (.agg #[.int .i64 xt, .int .i64 xk]) false).run Tryz.prog W = .ok (.int .i64 (LA (xt, xk))) W) := Lib.hid fun W hW => ml_look hW HOJ.out.2.1 HOJ.out.1 rfl
                have HPX : Hid (∀ W, Aft w W → Calls Tryz.prog F (bd ++ #[.int .i64 xk] ++ lb) W (BoolNew (P xk) W)) := Lib.hid fun W hW => HP.out W xk hW
                have HCZ : Hid (∀ Z : World, Z.heap[wA.heap.size]? = some bx → Z.heap[b9]? = some (boxO ⟨xr, xk, xt, xn⟩) → (Z.cell? ⟨wA.heap.size, 0, none⟩ = some (.int .i64 ti) ∧ Z.cell? ⟨wA.heap.size, 1, none⟩ = some (.bool td)) ∧ Z.cell? ⟨b9, 0, none⟩ = some (.bool xr) ∧ Z.cell? ⟨b9, 1, none⟩ = some (.int .i64 xk) ∧ Z.cell? ⟨b9, 2, none⟩ = some (.int .i64 xt) ∧ Z.cell? ⟨b9, 3, none⟩ = some (.int .i64 xn)) := Lib.hid fun Z h1 h2 => ⟨⟨(HBC.out Z h1).1, (HBC.out Z h1).2.1⟩, (cellsO h2).2.1.1, (cellsO h2).2.1.2.1, (cellsO h2).2.1.2.2.1, (cellsO h2).2.1.2.2.2⟩
                obtain ⟨i0, i1, i2⟩ := HBC.out wr HS.out.2
                have HB9 : Hid (ba < b9 ∧ wA.heap.size < b9) := Lib.hid ⟨by rw [hb9]; have := HBA.out; have := HSZ.out; omega, by rw [hb9]; exact HSZ.out⟩
                clear HS HSN HFB3 HOJ
                generalize LA (xt, xk) = la at HRC HLK
                generalize P xk = pk at HRC HPX
                generalize rdC LA P ti td ⟨xr, xk, xt, xn⟩ = rc at HRC HNO HYES
                unfold boxO at hX
                go_upto_region 17 with fail
                rw [← hX, ← hb9]
                clear hX hb9 i0 i1 i2 d0 d1 d2 d3
                obtain ⟨XD, hXD⟩ : ∃ W, W = X.drew := ⟨_, rfl⟩
                rw [← hXD] at HD
                refine wp_region_held_drew (S := fun Z => (Z.cell? ⟨wA.heap.size, 0, none⟩ = some (.int .i64 ti) ∧ Z.cell? ⟨wA.heap.size, 1, none⟩ = some (.bool td)) ∧ Z.cell? ⟨b9, 0, none⟩ = some (.bool xr) ∧ Z.cell? ⟨b9, 1, none⟩ = some (.int .i64 xk) ∧ Z.cell? ⟨b9, 2, none⟩ = some (.int .i64 xt) ∧ Z.cell? ⟨b9, 3, none⟩ = some (.int .i64 xn)) (by kernel_rfl) (hXD ▸ HCZ.out _ HD.out.2.1 HD.out.2.2) (fun hHeld0 => ?_)
                rw [← hXD] at hHeld0 ⊢
                clear hXD
                cases td with
                | false =>
                  have HRC : Hid (rc = false) := Lib.hid (by rw [HRC.out]; rfl)
                  refine wpAnyH_take (i := 0) (v := ?_) rfl (by kernel_rfl) (by kernel_rfl) (by kernel_rfl) (fun _ _ _ h => h) (Or.inl ⟨by rfl, ?yh1_0⟩) (by assumption) ?qh1_0
                  case yh1_0 => (intro wz hSw; (try dsimp only at hSw); go_simp <;> with_reducible rfl)
                  try simp only [Act.put, List.getElem_toArray, List.getElem_cons_zero, List.setIfInBounds_toArray, List.set_cons_zero, List.set_cons_succ]
                  refine wpAnyH_take (i := 1) (v := ?_) rfl (by kernel_rfl) (by kernel_rfl) (by kernel_rfl) (fun _ _ _ h => h) (Or.inl ⟨by rfl, ?yh1_1⟩) (by assumption) ?qh1_1
                  case yh1_1 => (intro wz hSw; (try dsimp only at hSw); go_simp <;> with_reducible rfl)
                  try simp only [Act.put, List.getElem_toArray, List.getElem_cons_zero, List.getElem_cons_succ, List.setIfInBounds_toArray, List.set_cons_zero, List.set_cons_succ]
                  refine wpAnyH_take (i := 2) (v := ?_) rfl (by kernel_rfl) (by kernel_rfl) (by kernel_rfl) (fun _ _ _ h => h) (Or.inl ⟨by rfl, ?yh1_2⟩) (by assumption) ?qh1_2
                  case yh1_2 => (intro wz hSw; (try dsimp only at hSw); go_simp <;> with_reducible rfl)
                  try simp only [Act.put, List.getElem_toArray, List.getElem_cons_zero, List.getElem_cons_succ, List.setIfInBounds_toArray, List.set_cons_zero, List.set_cons_succ]
                  refine wpAnyH_take (i := 3) (v := undef) rfl (by kernel_rfl) (by kernel_rfl) (by kernel_rfl) (fun _ _ _ h => h) (Or.inr ⟨by rfl, rfl⟩) (by assumption) ?_
                  try simp only [Act.put, List.getElem_toArray, List.getElem_cons_zero, List.getElem_cons_succ, List.setIfInBounds_toArray, List.set_cons_zero, List.set_cons_succ]
                  refine wpAnyH_take (i := 4) (v := undef) rfl (by kernel_rfl) (by kernel_rfl) (by kernel_rfl) (fun _ _ _ h => h) (Or.inr ⟨by rfl, rfl⟩) (by assumption) ?_
                  try simp only [Act.put, List.getElem_toArray, List.getElem_cons_zero, List.getElem_cons_succ, List.setIfInBounds_toArray, List.set_cons_zero, List.set_cons_succ]
                  refine wpAnyH_take (i := 5) (v := ?_) rfl (by kernel_rfl) (by kernel_rfl) (by kernel_rfl) (fun _ _ _ h => h) (Or.inl ⟨by rfl, ?yh1_5⟩) (by assumption) ?qh1_5
                  case yh1_5 => (intro wz hSw; (try dsimp only at hSw); go_simp <;> with_reducible rfl)
                  try simp only [Act.put, List.getElem_toArray, List.getElem_cons_zero, List.getElem_cons_succ, List.setIfInBounds_toArray, List.set_cons_zero, List.set_cons_succ]
                  refine wpAnyH_take (i := 6) (v := ?_) rfl (by kernel_rfl) (by kernel_rfl) (by kernel_rfl) (fun _ _ _ h => h) (Or.inl ⟨by rfl, ?yh1_6⟩) (by assumption) ?qh1_6
                  case yh1_6 => (intro wz hSw; (try dsimp only at hSw); go_simp <;> with_reducible rfl)
                  try simp only [Act.put, List.getElem_toArray, List.getElem_cons_zero, List.getElem_cons_succ, List.setIfInBounds_toArray, List.set_cons_zero, List.set_cons_succ]
                  refine wpAnyH_take (i := 7) (v := undef) rfl (by kernel_rfl) (by kernel_rfl) (by kernel_rfl) (fun _ _ _ h => h) (Or.inr ⟨by rfl, rfl⟩) (by assumption) ?_
                  try simp only [Act.put, List.getElem_toArray, List.getElem_cons_zero, List.getElem_cons_succ, List.setIfInBounds_toArray, List.set_cons_zero, List.set_cons_succ]
                  refine wpAnyH_take (i := 8) (v := undef) rfl (by kernel_rfl) (by kernel_rfl) (by kernel_rfl) (fun _ _ _ h => h) (Or.inr ⟨by rfl, rfl⟩) (by assumption) ?_
                  try simp only [Act.put, List.getElem_toArray, List.getElem_cons_zero, List.getElem_cons_succ, List.setIfInBounds_toArray, List.set_cons_zero, List.set_cons_succ]
                  refine wpAnyH_take (i := 9) (v := undef) rfl (by kernel_rfl) (by kernel_rfl) (by kernel_rfl) (fun _ _ _ h => h) (Or.inr ⟨by rfl, rfl⟩) (by assumption) ?_
                  try simp only [Act.put, List.getElem_toArray, List.getElem_cons_zero, List.getElem_cons_succ, List.setIfInBounds_toArray, List.set_cons_zero, List.set_cons_succ]
                  refine wpAnyH_take (i := 10) (v := undef) rfl (by kernel_rfl) (by kernel_rfl) (by kernel_rfl) (fun _ _ _ h => h) (Or.inr ⟨by rfl, rfl⟩) (by assumption) ?_
                  try simp only [Act.put, List.getElem_toArray, List.getElem_cons_zero, List.getElem_cons_succ, List.setIfInBounds_toArray, List.set_cons_zero, List.set_cons_succ]
                  refine wpAnyH_take (i := 11) (v := undef) rfl (by kernel_rfl) (by kernel_rfl) (by kernel_rfl) (fun _ _ _ h => h) (Or.inr ⟨by rfl, rfl⟩) (by assumption) ?_
                  try simp only [Act.put, List.getElem_toArray, List.getElem_cons_zero, List.getElem_cons_succ, List.setIfInBounds_toArray, List.set_cons_zero, List.set_cons_succ]
                  refine wpAnyH_take (i := 12) (v := ?_) rfl (by kernel_rfl) (by kernel_rfl) (by kernel_rfl) (fun _ _ _ h => h) (Or.inl ⟨by rfl, ?yh1_12⟩) (by assumption) ?qh1_12
                  case yh1_12 => (intro wz hSw; (try dsimp only at hSw); go_simp <;> with_reducible rfl)
                  try simp only [Act.put, List.getElem_toArray, List.getElem_cons_zero, List.getElem_cons_succ, List.setIfInBounds_toArray, List.set_cons_zero, List.set_cons_succ]
                  refine wpAnyH_take (i := 13) (v := ?_) rfl (by kernel_rfl) (by kernel_rfl) (by kernel_rfl) (fun _ _ _ h => h) (Or.inl ⟨by rfl, ?yh1_13⟩) (by assumption) ?qh1_13
                  case yh1_13 => (intro wz hSw; (try dsimp only at hSw); go_simp <;> with_reducible rfl)
                  try simp only [Act.put, List.getElem_toArray, List.getElem_cons_zero, List.getElem_cons_succ, List.setIfInBounds_toArray, List.set_cons_zero, List.set_cons_succ]
                  refine wpAnyH_take (i := 14) (v := undef) rfl (by kernel_rfl) (by kernel_rfl) (by kernel_rfl) (fun _ _ _ h => h) (Or.inr ⟨by rfl, rfl⟩) (by assumption) ?_
                  try simp only [Act.put, List.getElem_toArray, List.getElem_cons_zero, List.getElem_cons_succ, List.setIfInBounds_toArray, List.set_cons_zero, List.set_cons_succ]
                  refine wpAnyH_take (i := 15) (v := undef) rfl (by kernel_rfl) (by kernel_rfl) (by kernel_rfl) (fun _ _ _ h => h) (Or.inr ⟨by rfl, rfl⟩) (by assumption) ?_
                  try simp only [Act.put, List.getElem_toArray, List.getElem_cons_zero, List.getElem_cons_succ, List.setIfInBounds_toArray, List.set_cons_zero, List.set_cons_succ]
                  refine wpAnyH_take (i := 16) (v := undef) rfl (by kernel_rfl) (by kernel_rfl) (by kernel_rfl) (fun _ _ _ h => h) (Or.inr ⟨by rfl, rfl⟩) (by assumption) ?_
                  try simp only [Act.put, List.getElem_toArray, List.getElem_cons_zero, List.getElem_cons_succ, List.setIfInBounds_toArray, List.set_cons_zero, List.set_cons_succ]
                  refine wpAnyH_take (i := 17) (v := undef) rfl (by kernel_rfl) (by kernel_rfl) (by kernel_rfl) (fun _ _ _ h => h) (Or.inr ⟨by rfl, rfl⟩) (by assumption) ?_
                  try simp only [Act.put, List.getElem_toArray, List.getElem_cons_zero, List.getElem_cons_succ, List.setIfInBounds_toArray, List.set_cons_zero, List.set_cons_succ]
                  refine wpAnyH_take (i := 18) (v := ?_) rfl (by kernel_rfl) (by kernel_rfl) (by kernel_rfl) (fun _ _ _ h => h) (Or.inl ⟨by rfl, ?yh1_18⟩) (by assumption) ?qh1_18
                  case yh1_18 => (intro wz hSw; (try dsimp only at hSw); go_simp <;> with_reducible rfl)
                  try simp only [Act.put, List.getElem_toArray, List.getElem_cons_zero, List.getElem_cons_succ, List.setIfInBounds_toArray, List.set_cons_zero, List.set_cons_succ]
                  refine wpAnyH_take (i := 19) (v := ?_) rfl (by kernel_rfl) (by kernel_rfl) (by kernel_rfl) (fun _ _ _ h => h) (Or.inl ⟨by rfl, ?yh1_19⟩) (by assumption) ?qh1_19
                  case yh1_19 => (intro wz hSw; (try dsimp only at hSw); go_simp <;> with_reducible rfl)
                  try simp only [Act.put, List.getElem_toArray, List.getElem_cons_zero, List.getElem_cons_succ, List.setIfInBounds_toArray, List.set_cons_zero, List.set_cons_succ]
                  refine wpAnyH_take (i := 20) (v := undef) rfl (by kernel_rfl) (by kernel_rfl) (by kernel_rfl) (fun _ _ _ h => h) (Or.inr ⟨by rfl, rfl⟩) (by assumption) ?_
                  try simp only [Act.put, List.getElem_toArray, List.getElem_cons_zero, List.getElem_cons_succ, List.setIfInBounds_toArray, List.set_cons_zero, List.set_cons_succ]
                  refine wpAnyH_take (i := 21) (v := undef) rfl (by kernel_rfl) (by kernel_rfl) (by kernel_rfl) (fun _ _ _ h => h) (Or.inr ⟨by rfl, rfl⟩) (by assumption) ?_
                  try simp only [Act.put, List.getElem_toArray, List.getElem_cons_zero, List.getElem_cons_succ, List.setIfInBounds_toArray, List.set_cons_zero, List.set_cons_succ]
                  refine wpAnyH_take (i := 22) (v := undef) rfl (by kernel_rfl) (by kernel_rfl) (by kernel_rfl) (fun _ _ _ h => h) (Or.inr ⟨by rfl, rfl⟩) (by assumption) ?_
                  try simp only [Act.put, List.getElem_toArray, List.getElem_cons_zero, List.getElem_cons_succ, List.setIfInBounds_toArray, List.set_cons_zero, List.set_cons_succ]
                  refine wpAnyH_take (i := 23) (v := undef) rfl (by kernel_rfl) (by kernel_rfl) (by kernel_rfl) (fun _ _ _ h => h) (Or.inr ⟨by rfl, rfl⟩) (by assumption) ?_
                  try simp only [Act.put, List.getElem_toArray, List.getElem_cons_zero, List.getElem_cons_succ, List.setIfInBounds_toArray, List.set_cons_zero, List.set_cons_succ]
                  refine wpAnyH_take (i := 24) (v := undef) rfl (by kernel_rfl) (by kernel_rfl) (by kernel_rfl) (fun _ _ _ h => h) (Or.inr ⟨by rfl, rfl⟩) (by assumption) ?_
                  try simp only [Act.put, List.getElem_toArray, List.getElem_cons_zero, List.getElem_cons_succ, List.setIfInBounds_toArray, List.set_cons_zero, List.set_cons_succ]
                  refine wpAnyH_take (i := 25) (v := undef) rfl (by kernel_rfl) (by kernel_rfl) (by kernel_rfl) (fun _ _ _ h => h) (Or.inr ⟨by rfl, rfl⟩) (by assumption) ?_
                  try simp only [Act.put, List.getElem_toArray, List.getElem_cons_zero, List.getElem_cons_succ, List.setIfInBounds_toArray, List.set_cons_zero, List.set_cons_succ]
                  refine wpAnyH_take (i := 26) (v := undef) rfl (by kernel_rfl) (by kernel_rfl) (by kernel_rfl) (fun _ _ _ h => h) (Or.inr ⟨by rfl, rfl⟩) (by assumption) ?_
                  try simp only [Act.put, List.getElem_toArray, List.getElem_cons_zero, List.getElem_cons_succ, List.setIfInBounds_toArray, List.set_cons_zero, List.set_cons_succ]
                  refine wpAnyH_take (i := 27) (v := undef) rfl (by kernel_rfl) (by kernel_rfl) (by kernel_rfl) (fun _ _ _ h => h) (Or.inr ⟨by rfl, rfl⟩) (by assumption) ?_
                  try simp only [Act.put, List.getElem_toArray, List.getElem_cons_zero, List.getElem_cons_succ, List.setIfInBounds_toArray, List.set_cons_zero, List.set_cons_succ]
                  refine wpAnyH_take (i := 28) (v := undef) rfl (by kernel_rfl) (by kernel_rfl) (by kernel_rfl) (fun _ _ _ h => h) (Or.inr ⟨by rfl, rfl⟩) (by assumption) ?_
                  try simp only [Act.put, List.getElem_toArray, List.getElem_cons_zero, List.getElem_cons_succ, List.setIfInBounds_toArray, List.set_cons_zero, List.set_cons_succ]
                  refine wpAnyH_take (i := 29) (v := undef) rfl (by kernel_rfl) (by kernel_rfl) (by kernel_rfl) (fun _ _ _ h => h) (Or.inr ⟨by rfl, rfl⟩) (by assumption) ?_
                  try simp only [Act.put, List.getElem_toArray, List.getElem_cons_zero, List.getElem_cons_succ, List.setIfInBounds_toArray, List.set_cons_zero, List.set_cons_succ]
                  refine wpAnyH_take (i := 30) (v := ?_) rfl (by kernel_rfl) (by kernel_rfl) (by kernel_rfl) (fun _ _ _ h => h) (Or.inl ⟨by rfl, ?yh1_30⟩) (by assumption) ?qh1_30
                  case yh1_30 => (intro wz hSw; (try dsimp only at hSw); go_simp <;> with_reducible rfl)
                  try simp only [Act.put, List.getElem_toArray, List.getElem_cons_zero, List.getElem_cons_succ, List.setIfInBounds_toArray, List.set_cons_zero, List.set_cons_succ]
                  refine wpAnyH_done (by kernel_rfl) ?_ _
                  have HR : Hid (CU w ba bl nl bn nn LA NX bh XD (1000 * n2 + 200 * k + 2 * (j + 1)) (fun e => ((FT e + sumO NX LA P ti false (tl.take (j + 1)) e : Nat) : Int)) ∧ XD.heap[wA.heap.size]? = some bx) := Lib.hid ⟨HD.out.1.ext (fun e => HNO.out HRC.out e) (by omega), HD.out.2.1⟩
                  clear hHeld0 HNO HYES HRC HRDX HLK HPX HCZ HD
                  go_wp2_with fail
                  go_roundw
                  case rel => exact ⟨j + 1, by go_num, by omega, HR⟩
                  case measure => simp [intOf]; omega
                | true =>
                  cases xr with
                  | false =>
                    have HRC : Hid (rc = false) := Lib.hid (by rw [HRC.out]; rfl)
                    refine wpAnyH_take (i := 0) (v := ?_) rfl (by kernel_rfl) (by kernel_rfl) (by kernel_rfl) (fun _ _ _ h => h) (Or.inl ⟨by rfl, ?yh2_0⟩) (by assumption) ?qh2_0
                    case yh2_0 => (intro wz hSw; (try dsimp only at hSw); go_simp <;> with_reducible rfl)
                    try simp only [Act.put, List.getElem_toArray, List.getElem_cons_zero, List.setIfInBounds_toArray, List.set_cons_zero, List.set_cons_succ]
                    refine wpAnyH_take (i := 1) (v := ?_) rfl (by kernel_rfl) (by kernel_rfl) (by kernel_rfl) (fun _ _ _ h => h) (Or.inl ⟨by rfl, ?yh2_1⟩) (by assumption) ?qh2_1
                    case yh2_1 => (intro wz hSw; (try dsimp only at hSw); go_simp <;> with_reducible rfl)
                    try simp only [Act.put, List.getElem_toArray, List.getElem_cons_zero, List.getElem_cons_succ, List.setIfInBounds_toArray, List.set_cons_zero, List.set_cons_succ]
                    refine wpAnyH_take (i := 2) (v := ?_) rfl (by kernel_rfl) (by kernel_rfl) (by kernel_rfl) (fun _ _ _ h => h) (Or.inl ⟨by rfl, ?yh2_2⟩) (by assumption) ?qh2_2
                    case yh2_2 => (intro wz hSw; (try dsimp only at hSw); go_simp <;> with_reducible rfl)
                    try simp only [Act.put, List.getElem_toArray, List.getElem_cons_zero, List.getElem_cons_succ, List.setIfInBounds_toArray, List.set_cons_zero, List.set_cons_succ]
                    refine wpAnyH_take (i := 3) (v := ?_) rfl (by kernel_rfl) (by kernel_rfl) (by kernel_rfl) (fun _ _ _ h => h) (Or.inl ⟨by rfl, ?yh2_3⟩) (by assumption) ?qh2_3
                    case yh2_3 => (intro wz hSw; (try dsimp only at hSw); go_simp <;> with_reducible rfl)
                    try simp only [Act.put, List.getElem_toArray, List.getElem_cons_zero, List.getElem_cons_succ, List.setIfInBounds_toArray, List.set_cons_zero, List.set_cons_succ]
                    refine wpAnyH_take (i := 4) (v := ?_) rfl (by kernel_rfl) (by kernel_rfl) (by kernel_rfl) (fun _ _ _ h => h) (Or.inl ⟨by rfl, ?yh2_4⟩) (by assumption) ?qh2_4
                    case yh2_4 => (intro wz hSw; (try dsimp only at hSw); go_simp <;> with_reducible rfl)
                    try simp only [Act.put, List.getElem_toArray, List.getElem_cons_zero, List.getElem_cons_succ, List.setIfInBounds_toArray, List.set_cons_zero, List.set_cons_succ]
                    refine wpAnyH_take (i := 5) (v := ?_) rfl (by kernel_rfl) (by kernel_rfl) (by kernel_rfl) (fun _ _ _ h => h) (Or.inl ⟨by rfl, ?yh2_5⟩) (by assumption) ?qh2_5
                    case yh2_5 => (intro wz hSw; (try dsimp only at hSw); go_simp <;> with_reducible rfl)
                    try simp only [Act.put, List.getElem_toArray, List.getElem_cons_zero, List.getElem_cons_succ, List.setIfInBounds_toArray, List.set_cons_zero, List.set_cons_succ]
                    refine wpAnyH_take (i := 6) (v := ?_) rfl (by kernel_rfl) (by kernel_rfl) (by kernel_rfl) (fun _ _ _ h => h) (Or.inl ⟨by rfl, ?yh2_6⟩) (by assumption) ?qh2_6
                    case yh2_6 => (intro wz hSw; (try dsimp only at hSw); go_simp <;> with_reducible rfl)
                    try simp only [Act.put, List.getElem_toArray, List.getElem_cons_zero, List.getElem_cons_succ, List.setIfInBounds_toArray, List.set_cons_zero, List.set_cons_succ]
                    refine wpAnyH_take (i := 7) (v := undef) rfl (by kernel_rfl) (by kernel_rfl) (by kernel_rfl) (fun _ _ _ h => h) (Or.inr ⟨by rfl, rfl⟩) (by assumption) ?_
                    try simp only [Act.put, List.getElem_toArray, List.getElem_cons_zero, List.getElem_cons_succ, List.setIfInBounds_toArray, List.set_cons_zero, List.set_cons_succ]
                    refine wpAnyH_take (i := 8) (v := undef) rfl (by kernel_rfl) (by kernel_rfl) (by kernel_rfl) (fun _ _ _ h => h) (Or.inr ⟨by rfl, rfl⟩) (by assumption) ?_
                    try simp only [Act.put, List.getElem_toArray, List.getElem_cons_zero, List.getElem_cons_succ, List.setIfInBounds_toArray, List.set_cons_zero, List.set_cons_succ]
                    refine wpAnyH_take (i := 9) (v := undef) rfl (by kernel_rfl) (by kernel_rfl) (by kernel_rfl) (fun _ _ _ h => h) (Or.inr ⟨by rfl, rfl⟩) (by assumption) ?_
                    try simp only [Act.put, List.getElem_toArray, List.getElem_cons_zero, List.getElem_cons_succ, List.setIfInBounds_toArray, List.set_cons_zero, List.set_cons_succ]
                    refine wpAnyH_take (i := 10) (v := undef) rfl (by kernel_rfl) (by kernel_rfl) (by kernel_rfl) (fun _ _ _ h => h) (Or.inr ⟨by rfl, rfl⟩) (by assumption) ?_
                    try simp only [Act.put, List.getElem_toArray, List.getElem_cons_zero, List.getElem_cons_succ, List.setIfInBounds_toArray, List.set_cons_zero, List.set_cons_succ]
                    refine wpAnyH_take (i := 11) (v := undef) rfl (by kernel_rfl) (by kernel_rfl) (by kernel_rfl) (fun _ _ _ h => h) (Or.inr ⟨by rfl, rfl⟩) (by assumption) ?_
                    try simp only [Act.put, List.getElem_toArray, List.getElem_cons_zero, List.getElem_cons_succ, List.setIfInBounds_toArray, List.set_cons_zero, List.set_cons_succ]
                    refine wpAnyH_take (i := 12) (v := ?_) rfl (by kernel_rfl) (by kernel_rfl) (by kernel_rfl) (fun _ _ _ h => h) (Or.inl ⟨by rfl, ?yh2_12⟩) (by assumption) ?qh2_12
                    case yh2_12 => (intro wz hSw; (try dsimp only at hSw); go_simp <;> with_reducible rfl)
                    try simp only [Act.put, List.getElem_toArray, List.getElem_cons_zero, List.getElem_cons_succ, List.setIfInBounds_toArray, List.set_cons_zero, List.set_cons_succ]
                    refine wpAnyH_take (i := 13) (v := ?_) rfl (by kernel_rfl) (by kernel_rfl) (by kernel_rfl) (fun _ _ _ h => h) (Or.inl ⟨by rfl, ?yh2_13⟩) (by assumption) ?qh2_13
                    case yh2_13 => (intro wz hSw; (try dsimp only at hSw); go_simp <;> with_reducible rfl)
                    try simp only [Act.put, List.getElem_toArray, List.getElem_cons_zero, List.getElem_cons_succ, List.setIfInBounds_toArray, List.set_cons_zero, List.set_cons_succ]
                    refine wpAnyH_take (i := 14) (v := undef) rfl (by kernel_rfl) (by kernel_rfl) (by kernel_rfl) (fun _ _ _ h => h) (Or.inr ⟨by rfl, rfl⟩) (by assumption) ?_
                    try simp only [Act.put, List.getElem_toArray, List.getElem_cons_zero, List.getElem_cons_succ, List.setIfInBounds_toArray, List.set_cons_zero, List.set_cons_succ]
                    refine wpAnyH_take (i := 15) (v := undef) rfl (by kernel_rfl) (by kernel_rfl) (by kernel_rfl) (fun _ _ _ h => h) (Or.inr ⟨by rfl, rfl⟩) (by assumption) ?_
                    try simp only [Act.put, List.getElem_toArray, List.getElem_cons_zero, List.getElem_cons_succ, List.setIfInBounds_toArray, List.set_cons_zero, List.set_cons_succ]
                    refine wpAnyH_take (i := 16) (v := undef) rfl (by kernel_rfl) (by kernel_rfl) (by kernel_rfl) (fun _ _ _ h => h) (Or.inr ⟨by rfl, rfl⟩) (by assumption) ?_
                    try simp only [Act.put, List.getElem_toArray, List.getElem_cons_zero, List.getElem_cons_succ, List.setIfInBounds_toArray, List.set_cons_zero, List.set_cons_succ]
                    refine wpAnyH_take (i := 17) (v := undef) rfl (by kernel_rfl) (by kernel_rfl) (by kernel_rfl) (fun _ _ _ h => h) (Or.inr ⟨by rfl, rfl⟩) (by assumption) ?_
                    try simp only [Act.put, List.getElem_toArray, List.getElem_cons_zero, List.getElem_cons_succ, List.setIfInBounds_toArray, List.set_cons_zero, List.set_cons_succ]
                    refine wpAnyH_take (i := 18) (v := ?_) rfl (by kernel_rfl) (by kernel_rfl) (by kernel_rfl) (fun _ _ _ h => h) (Or.inl ⟨by rfl, ?yh2_18⟩) (by assumption) ?qh2_18
                    case yh2_18 => (intro wz hSw; (try dsimp only at hSw); go_simp <;> with_reducible rfl)
                    try simp only [Act.put, List.getElem_toArray, List.getElem_cons_zero, List.getElem_cons_succ, List.setIfInBounds_toArray, List.set_cons_zero, List.set_cons_succ]
                    refine wpAnyH_take (i := 19) (v := ?_) rfl (by kernel_rfl) (by kernel_rfl) (by kernel_rfl) (fun _ _ _ h => h) (Or.inl ⟨by rfl, ?yh2_19⟩) (by assumption) ?qh2_19
                    case yh2_19 => (intro wz hSw; (try dsimp only at hSw); go_simp <;> with_reducible rfl)
                    try simp only [Act.put, List.getElem_toArray, List.getElem_cons_zero, List.getElem_cons_succ, List.setIfInBounds_toArray, List.set_cons_zero, List.set_cons_succ]
                    refine wpAnyH_take (i := 20) (v := undef) rfl (by kernel_rfl) (by kernel_rfl) (by kernel_rfl) (fun _ _ _ h => h) (Or.inr ⟨by rfl, rfl⟩) (by assumption) ?_
                    try simp only [Act.put, List.getElem_toArray, List.getElem_cons_zero, List.getElem_cons_succ, List.setIfInBounds_toArray, List.set_cons_zero, List.set_cons_succ]
                    refine wpAnyH_take (i := 21) (v := undef) rfl (by kernel_rfl) (by kernel_rfl) (by kernel_rfl) (fun _ _ _ h => h) (Or.inr ⟨by rfl, rfl⟩) (by assumption) ?_
                    try simp only [Act.put, List.getElem_toArray, List.getElem_cons_zero, List.getElem_cons_succ, List.setIfInBounds_toArray, List.set_cons_zero, List.set_cons_succ]
                    refine wpAnyH_take (i := 22) (v := undef) rfl (by kernel_rfl) (by kernel_rfl) (by kernel_rfl) (fun _ _ _ h => h) (Or.inr ⟨by rfl, rfl⟩) (by assumption) ?_
                    try simp only [Act.put, List.getElem_toArray, List.getElem_cons_zero, List.getElem_cons_succ, List.setIfInBounds_toArray, List.set_cons_zero, List.set_cons_succ]
                    refine wpAnyH_take (i := 23) (v := undef) rfl (by kernel_rfl) (by kernel_rfl) (by kernel_rfl) (fun _ _ _ h => h) (Or.inr ⟨by rfl, rfl⟩) (by assumption) ?_
                    try simp only [Act.put, List.getElem_toArray, List.getElem_cons_zero, List.getElem_cons_succ, List.setIfInBounds_toArray, List.set_cons_zero, List.set_cons_succ]
                    refine wpAnyH_take (i := 24) (v := undef) rfl (by kernel_rfl) (by kernel_rfl) (by kernel_rfl) (fun _ _ _ h => h) (Or.inr ⟨by rfl, rfl⟩) (by assumption) ?_
                    try simp only [Act.put, List.getElem_toArray, List.getElem_cons_zero, List.getElem_cons_succ, List.setIfInBounds_toArray, List.set_cons_zero, List.set_cons_succ]
                    refine wpAnyH_take (i := 25) (v := undef) rfl (by kernel_rfl) (by kernel_rfl) (by kernel_rfl) (fun _ _ _ h => h) (Or.inr ⟨by rfl, rfl⟩) (by assumption) ?_
                    try simp only [Act.put, List.getElem_toArray, List.getElem_cons_zero, List.getElem_cons_succ, List.setIfInBounds_toArray, List.set_cons_zero, List.set_cons_succ]
                    refine wpAnyH_take (i := 26) (v := undef) rfl (by kernel_rfl) (by kernel_rfl) (by kernel_rfl) (fun _ _ _ h => h) (Or.inr ⟨by rfl, rfl⟩) (by assumption) ?_
                    try simp only [Act.put, List.getElem_toArray, List.getElem_cons_zero, List.getElem_cons_succ, List.setIfInBounds_toArray, List.set_cons_zero, List.set_cons_succ]
                    refine wpAnyH_take (i := 27) (v := undef) rfl (by kernel_rfl) (by kernel_rfl) (by kernel_rfl) (fun _ _ _ h => h) (Or.inr ⟨by rfl, rfl⟩) (by assumption) ?_
                    try simp only [Act.put, List.getElem_toArray, List.getElem_cons_zero, List.getElem_cons_succ, List.setIfInBounds_toArray, List.set_cons_zero, List.set_cons_succ]
                    refine wpAnyH_take (i := 28) (v := undef) rfl (by kernel_rfl) (by kernel_rfl) (by kernel_rfl) (fun _ _ _ h => h) (Or.inr ⟨by rfl, rfl⟩) (by assumption) ?_
                    try simp only [Act.put, List.getElem_toArray, List.getElem_cons_zero, List.getElem_cons_succ, List.setIfInBounds_toArray, List.set_cons_zero, List.set_cons_succ]
                    refine wpAnyH_take (i := 29) (v := undef) rfl (by kernel_rfl) (by kernel_rfl) (by kernel_rfl) (fun _ _ _ h => h) (Or.inr ⟨by rfl, rfl⟩) (by assumption) ?_
                    try simp only [Act.put, List.getElem_toArray, List.getElem_cons_zero, List.getElem_cons_succ, List.setIfInBounds_toArray, List.set_cons_zero, List.set_cons_succ]
                    refine wpAnyH_take (i := 30) (v := ?_) rfl (by kernel_rfl) (by kernel_rfl) (by kernel_rfl) (fun _ _ _ h => h) (Or.inl ⟨by rfl, ?yh2_30⟩) (by assumption) ?qh2_30
                    case yh2_30 => (intro wz hSw; (try dsimp only at hSw); go_simp <;> with_reducible rfl)
                    try simp only [Act.put, List.getElem_toArray, List.getElem_cons_zero, List.getElem_cons_succ, List.setIfInBounds_toArray, List.set_cons_zero, List.set_cons_succ]
                    refine wpAnyH_done (by kernel_rfl) ?_ _
                    have HR : Hid (CU w ba bl nl bn nn LA NX bh XD (1000 * n2 + 200 * k + 2 * (j + 1)) (fun e => ((FT e + sumO NX LA P ti true (tl.take (j + 1)) e : Nat) : Int)) ∧ XD.heap[wA.heap.size]? = some bx) := Lib.hid ⟨HD.out.1.ext (fun e => HNO.out HRC.out e) (by omega), HD.out.2.1⟩
                    clear hHeld0 HNO HYES HRC HRDX HLK HPX HCZ HD
                    go_wp2_with fail
                    go_roundw
                    case rel => exact ⟨j + 1, by go_num, by omega, HR⟩
                    case measure => simp [intOf]; omega
                  | true =>
                    by_cases hti : xt = ti
                    · have hne : (xt != ti) = false := by simp [hti]
                      have HRC : Hid (rc = false) := Lib.hid (by rw [HRC.out]; simp [hti])
                      clear hti
                      refine wpAnyH_take (i := 0) (v := ?_) rfl (by kernel_rfl) (by kernel_rfl) (by kernel_rfl) (fun _ _ _ h => h) (Or.inl ⟨by rfl, ?yh3_0⟩) (by assumption) ?qh3_0
                      case yh3_0 => (intro wz hSw; (try dsimp only at hSw); go_simp <;> with_reducible rfl)
                      try simp only [Act.put, List.getElem_toArray, List.getElem_cons_zero, List.setIfInBounds_toArray, List.set_cons_zero, List.set_cons_succ]
                      refine wpAnyH_take (i := 1) (v := ?_) rfl (by kernel_rfl) (by kernel_rfl) (by kernel_rfl) (fun _ _ _ h => h) (Or.inl ⟨by rfl, ?yh3_1⟩) (by assumption) ?qh3_1
                      case yh3_1 => (intro wz hSw; (try dsimp only at hSw); go_simp <;> with_reducible rfl)
                      try simp only [Act.put, List.getElem_toArray, List.getElem_cons_zero, List.getElem_cons_succ, List.setIfInBounds_toArray, List.set_cons_zero, List.set_cons_succ]
                      refine wpAnyH_take (i := 2) (v := ?_) rfl (by kernel_rfl) (by kernel_rfl) (by kernel_rfl) (fun _ _ _ h => h) (Or.inl ⟨by rfl, ?yh3_2⟩) (by assumption) ?qh3_2
                      case yh3_2 => (intro wz hSw; (try dsimp only at hSw); go_simp <;> with_reducible rfl)
                      try simp only [Act.put, List.getElem_toArray, List.getElem_cons_zero, List.getElem_cons_succ, List.setIfInBounds_toArray, List.set_cons_zero, List.set_cons_succ]
                      refine wpAnyH_take (i := 3) (v := ?_) rfl (by kernel_rfl) (by kernel_rfl) (by kernel_rfl) (fun _ _ _ h => h) (Or.inl ⟨by rfl, ?yh3_3⟩) (by assumption) ?qh3_3
                      case yh3_3 => (intro wz hSw; (try dsimp only at hSw); go_simp <;> with_reducible rfl)
                      try simp only [Act.put, List.getElem_toArray, List.getElem_cons_zero, List.getElem_cons_succ, List.setIfInBounds_toArray, List.set_cons_zero, List.set_cons_succ]
                      refine wpAnyH_take (i := 4) (v := ?_) rfl (by kernel_rfl) (by kernel_rfl) (by kernel_rfl) (fun _ _ _ h => h) (Or.inl ⟨by rfl, ?yh3_4⟩) (by assumption) ?qh3_4
                      case yh3_4 => (intro wz hSw; (try dsimp only at hSw); go_simp <;> with_reducible rfl)
                      try simp only [Act.put, List.getElem_toArray, List.getElem_cons_zero, List.getElem_cons_succ, List.setIfInBounds_toArray, List.set_cons_zero, List.set_cons_succ]
                      refine wpAnyH_take (i := 5) (v := ?_) rfl (by kernel_rfl) (by kernel_rfl) (by kernel_rfl) (fun _ _ _ h => h) (Or.inl ⟨by rfl, ?yh3_5⟩) (by assumption) ?qh3_5
                      case yh3_5 => (intro wz hSw; (try dsimp only at hSw); go_simp <;> with_reducible rfl)
                      try simp only [Act.put, List.getElem_toArray, List.getElem_cons_zero, List.getElem_cons_succ, List.setIfInBounds_toArray, List.set_cons_zero, List.set_cons_succ]
                      refine wpAnyH_take (i := 6) (v := ?_) rfl (by kernel_rfl) (by kernel_rfl) (by kernel_rfl) (fun _ _ _ h => h) (Or.inl ⟨by rfl, ?yh3_6⟩) (by assumption) ?qh3_6
                      case yh3_6 => (intro wz hSw; (try dsimp only at hSw); go_simp <;> with_reducible rfl)
                      try simp only [Act.put, List.getElem_toArray, List.getElem_cons_zero, List.getElem_cons_succ, List.setIfInBounds_toArray, List.set_cons_zero, List.set_cons_succ]
                      refine wpAnyH_take (i := 7) (v := ?_) rfl (by kernel_rfl) (by kernel_rfl) (by kernel_rfl) (fun _ _ _ h => h) (Or.inl ⟨by rfl, ?yh3_7⟩) (by assumption) ?qh3_7
                      case yh3_7 => (intro wz hSw; (try dsimp only at hSw); go_simp <;> with_reducible rfl)
                      try simp only [Act.put, List.getElem_toArray, List.getElem_cons_zero, List.getElem_cons_succ, List.setIfInBounds_toArray, List.set_cons_zero, List.set_cons_succ]
                      refine wpAnyH_take (i := 8) (v := ?_) rfl (by kernel_rfl) (by kernel_rfl) (by kernel_rfl) (fun _ _ _ h => h) (Or.inl ⟨by rfl, ?yh3_8⟩) (by assumption) ?qh3_8
                      case yh3_8 => (intro wz hSw; (try dsimp only at hSw); go_simp <;> with_reducible rfl)
                      try simp only [Act.put, List.getElem_toArray, List.getElem_cons_zero, List.getElem_cons_succ, List.setIfInBounds_toArray, List.set_cons_zero, List.set_cons_succ]
                      refine wpAnyH_take (i := 9) (v := ?_) rfl (by kernel_rfl) (by kernel_rfl) (by kernel_rfl) (fun _ _ _ h => h) (Or.inl ⟨by rfl, ?yh3_9⟩) (by assumption) ?qh3_9
                      case yh3_9 => (intro wz hSw; (try dsimp only at hSw); go_simp <;> with_reducible rfl)
                      try simp only [Act.put, List.getElem_toArray, List.getElem_cons_zero, List.getElem_cons_succ, List.setIfInBounds_toArray, List.set_cons_zero, List.set_cons_succ]
                      refine wpAnyH_take (i := 10) (v := ?_) rfl (by kernel_rfl) (by kernel_rfl) (by kernel_rfl) (fun _ _ _ h => h) (Or.inl ⟨by rfl, ?yh3_10⟩) (by assumption) ?qh3_10
                      case yh3_10 => (intro wz hSw; (try dsimp only at hSw); go_simp <;> with_reducible rfl)
                      try simp only [Act.put, List.getElem_toArray, List.getElem_cons_zero, List.getElem_cons_succ, List.setIfInBounds_toArray, List.set_cons_zero, List.set_cons_succ]
                      refine wpAnyH_take (i := 11) (v := ?_) rfl (by kernel_rfl) (by kernel_rfl) (by kernel_rfl) (fun _ _ _ h => h) (Or.inl ⟨by rfl, ?yh3_11⟩) (by assumption) ?qh3_11
                      case yh3_11 => (intro wz hSw; (try dsimp only at hSw); go_simp <;> with_reducible rfl)
                      try simp only [Act.put, List.getElem_toArray, List.getElem_cons_zero, List.getElem_cons_succ, List.setIfInBounds_toArray, List.set_cons_zero, List.set_cons_succ]
                      refine wpAnyH_take (i := 12) (v := ?_) rfl (by kernel_rfl) (by kernel_rfl) (by kernel_rfl) (fun _ _ _ h => h) (Or.inl ⟨by rfl, ?yh3_12⟩) (by assumption) ?qh3_12
                      case yh3_12 => (intro wz hSw; (try dsimp only at hSw); go_simp <;> with_reducible rfl)
                      try simp only [Act.put, List.getElem_toArray, List.getElem_cons_zero, List.getElem_cons_succ, List.setIfInBounds_toArray, List.set_cons_zero, List.set_cons_succ]
                      refine wpAnyH_take (i := 13) (v := ?_) rfl (by kernel_rfl) (by kernel_rfl) (by kernel_rfl) (fun _ _ _ h => h) (Or.inl ⟨by rfl, ?yh3_13⟩) (by assumption) ?qh3_13
                      case yh3_13 => (intro wz hSw; (try dsimp only at hSw); go_simp <;> with_reducible rfl)
                      try simp only [Act.put, List.getElem_toArray, List.getElem_cons_zero, List.getElem_cons_succ, List.setIfInBounds_toArray, List.set_cons_zero, List.set_cons_succ]
                      refine wpAnyH_take (i := 14) (v := undef) rfl (by kernel_rfl) (by kernel_rfl) (by kernel_rfl) (fun _ _ _ h => h) (Or.inr ⟨by rfl, rfl⟩) (by assumption) ?_
                      try simp only [Act.put, List.getElem_toArray, List.getElem_cons_zero, List.getElem_cons_succ, List.setIfInBounds_toArray, List.set_cons_zero, List.set_cons_succ]
                      refine wpAnyH_take (i := 15) (v := undef) rfl (by kernel_rfl) (by kernel_rfl) (by kernel_rfl) (fun _ _ _ h => h) (Or.inr ⟨by rfl, rfl⟩) (by assumption) ?_
                      try simp only [Act.put, List.getElem_toArray, List.getElem_cons_zero, List.getElem_cons_succ, List.setIfInBounds_toArray, List.set_cons_zero, List.set_cons_succ]
                      refine wpAnyH_take (i := 16) (v := undef) rfl (by kernel_rfl) (by kernel_rfl) (by kernel_rfl) (fun _ _ _ h => h) (Or.inr ⟨by rfl, rfl⟩) (by assumption) ?_
                      try simp only [Act.put, List.getElem_toArray, List.getElem_cons_zero, List.getElem_cons_succ, List.setIfInBounds_toArray, List.set_cons_zero, List.set_cons_succ]
                      refine wpAnyH_take (i := 17) (v := undef) rfl (by kernel_rfl) (by kernel_rfl) (by kernel_rfl) (fun _ _ _ h => h) (Or.inr ⟨by rfl, rfl⟩) (by assumption) ?_
                      try simp only [Act.put, List.getElem_toArray, List.getElem_cons_zero, List.getElem_cons_succ, List.setIfInBounds_toArray, List.set_cons_zero, List.set_cons_succ]
                      refine wpAnyH_take (i := 18) (v := ?_) rfl (by kernel_rfl) (by kernel_rfl) (by kernel_rfl) (fun _ _ _ h => h) (Or.inl ⟨by rfl, ?yh3_18⟩) (by assumption) ?qh3_18
                      case yh3_18 => (intro wz hSw; (try dsimp only at hSw); go_simp <;> with_reducible rfl)
                      try simp only [Act.put, List.getElem_toArray, List.getElem_cons_zero, List.getElem_cons_succ, List.setIfInBounds_toArray, List.set_cons_zero, List.set_cons_succ]
                      refine wpAnyH_take (i := 19) (v := ?_) rfl (by kernel_rfl) (by kernel_rfl) (by kernel_rfl) (fun _ _ _ h => h) (Or.inl ⟨by rfl, ?yh3_19⟩) (by assumption) ?qh3_19
                      case yh3_19 => (intro wz hSw; (try dsimp only at hSw); go_simp <;> with_reducible rfl)
                      try simp only [Act.put, List.getElem_toArray, List.getElem_cons_zero, List.getElem_cons_succ, List.setIfInBounds_toArray, List.set_cons_zero, List.set_cons_succ]
                      refine wpAnyH_take (i := 20) (v := undef) rfl (by kernel_rfl) (by kernel_rfl) (by kernel_rfl) (fun _ _ _ h => h) (Or.inr ⟨by rfl, rfl⟩) (by assumption) ?_
                      try simp only [Act.put, List.getElem_toArray, List.getElem_cons_zero, List.getElem_cons_succ, List.setIfInBounds_toArray, List.set_cons_zero, List.set_cons_succ]
                      refine wpAnyH_take (i := 21) (v := undef) rfl (by kernel_rfl) (by kernel_rfl) (by kernel_rfl) (fun _ _ _ h => h) (Or.inr ⟨by rfl, rfl⟩) (by assumption) ?_
                      try simp only [Act.put, List.getElem_toArray, List.getElem_cons_zero, List.getElem_cons_succ, List.setIfInBounds_toArray, List.set_cons_zero, List.set_cons_succ]
                      refine wpAnyH_take (i := 22) (v := undef) rfl (by kernel_rfl) (by kernel_rfl) (by kernel_rfl) (fun _ _ _ h => h) (Or.inr ⟨by rfl, rfl⟩) (by assumption) ?_
                      try simp only [Act.put, List.getElem_toArray, List.getElem_cons_zero, List.getElem_cons_succ, List.setIfInBounds_toArray, List.set_cons_zero, List.set_cons_succ]
                      refine wpAnyH_take (i := 23) (v := undef) rfl (by kernel_rfl) (by kernel_rfl) (by kernel_rfl) (fun _ _ _ h => h) (Or.inr ⟨by rfl, rfl⟩) (by assumption) ?_
                      try simp only [Act.put, List.getElem_toArray, List.getElem_cons_zero, List.getElem_cons_succ, List.setIfInBounds_toArray, List.set_cons_zero, List.set_cons_succ]
                      refine wpAnyH_take (i := 24) (v := undef) rfl (by kernel_rfl) (by kernel_rfl) (by kernel_rfl) (fun _ _ _ h => h) (Or.inr ⟨by rfl, rfl⟩) (by assumption) ?_
                      try simp only [Act.put, List.getElem_toArray, List.getElem_cons_zero, List.getElem_cons_succ, List.setIfInBounds_toArray, List.set_cons_zero, List.set_cons_succ]
                      refine wpAnyH_take (i := 25) (v := undef) rfl (by kernel_rfl) (by kernel_rfl) (by kernel_rfl) (fun _ _ _ h => h) (Or.inr ⟨by rfl, rfl⟩) (by assumption) ?_
                      try simp only [Act.put, List.getElem_toArray, List.getElem_cons_zero, List.getElem_cons_succ, List.setIfInBounds_toArray, List.set_cons_zero, List.set_cons_succ]
                      refine wpAnyH_take (i := 26) (v := undef) rfl (by kernel_rfl) (by kernel_rfl) (by kernel_rfl) (fun _ _ _ h => h) (Or.inr ⟨by rfl, rfl⟩) (by assumption) ?_
                      try simp only [Act.put, List.getElem_toArray, List.getElem_cons_zero, List.getElem_cons_succ, List.setIfInBounds_toArray, List.set_cons_zero, List.set_cons_succ]
                      refine wpAnyH_take (i := 27) (v := undef) rfl (by kernel_rfl) (by kernel_rfl) (by kernel_rfl) (fun _ _ _ h => h) (Or.inr ⟨by rfl, rfl⟩) (by assumption) ?_
                      try simp only [Act.put, List.getElem_toArray, List.getElem_cons_zero, List.getElem_cons_succ, List.setIfInBounds_toArray, List.set_cons_zero, List.set_cons_succ]
                      refine wpAnyH_take (i := 28) (v := undef) rfl (by kernel_rfl) (by kernel_rfl) (by kernel_rfl) (fun _ _ _ h => h) (Or.inr ⟨by rfl, rfl⟩) (by assumption) ?_
                      try simp only [Act.put, List.getElem_toArray, List.getElem_cons_zero, List.getElem_cons_succ, List.setIfInBounds_toArray, List.set_cons_zero, List.set_cons_succ]
                      refine wpAnyH_take (i := 29) (v := undef) rfl (by kernel_rfl) (by kernel_rfl) (by kernel_rfl) (fun _ _ _ h => h) (Or.inr ⟨by rfl, rfl⟩) (by assumption) ?_
                      try simp only [Act.put, List.getElem_toArray, List.getElem_cons_zero, List.getElem_cons_succ, List.setIfInBounds_toArray, List.set_cons_zero, List.set_cons_succ]
                      refine wpAnyH_take (i := 30) (v := ?_) rfl (by kernel_rfl) (by kernel_rfl) (by kernel_rfl) (fun _ _ _ h => h) (Or.inl ⟨by rfl, ?yh3_30⟩) (by assumption) ?qh3_30
                      case yh3_30 => (intro wz hSw; (try dsimp only at hSw); go_simp <;> with_reducible rfl)
                      try simp only [Act.put, List.getElem_toArray, List.getElem_cons_zero, List.getElem_cons_succ, List.setIfInBounds_toArray, List.set_cons_zero, List.set_cons_succ]
                      refine wpAnyH_done (by kernel_rfl) ?_ _
                      have HR : Hid (CU w ba bl nl bn nn LA NX bh XD (1000 * n2 + 200 * k + 2 * (j + 1)) (fun e => ((FT e + sumO NX LA P ti true (tl.take (j + 1)) e : Nat) : Int)) ∧ XD.heap[wA.heap.size]? = some bx) := Lib.hid ⟨HD.out.1.ext (fun e => HNO.out HRC.out e) (by omega), HD.out.2.1⟩
                      clear hHeld0 HNO HYES HRC HRDX HLK HPX HCZ HD
                      go_wp2_with fail
                      go_roundw
                      case rel => exact ⟨j + 1, by go_num, by omega, HR⟩
                      case measure => simp [intOf]; omega
                    · have hne : (xt != ti) = true := by simp [hti]
                      have HRC : Hid (rc = (pk && decide (la = xn))) := Lib.hid (by rw [HRC.out]; simp [hti])
                      clear hti
                      refine wpAnyH_take (i := 0) (v := ?_) rfl (by kernel_rfl) (by kernel_rfl) (by kernel_rfl) (fun _ _ _ h => h) (Or.inl ⟨by rfl, ?yh4_0⟩) (by assumption) ?qh4_0
                      case yh4_0 => (intro wz hSw; (try dsimp only at hSw); go_simp <;> with_reducible rfl)
                      try simp only [Act.put, List.getElem_toArray, List.getElem_cons_zero, List.setIfInBounds_toArray, List.set_cons_zero, List.set_cons_succ]
                      refine wpAnyH_take (i := 1) (v := ?_) rfl (by kernel_rfl) (by kernel_rfl) (by kernel_rfl) (fun _ _ _ h => h) (Or.inl ⟨by rfl, ?yh4_1⟩) (by assumption) ?qh4_1
                      case yh4_1 => (intro wz hSw; (try dsimp only at hSw); go_simp <;> with_reducible rfl)
                      try simp only [Act.put, List.getElem_toArray, List.getElem_cons_zero, List.getElem_cons_succ, List.setIfInBounds_toArray, List.set_cons_zero, List.set_cons_succ]
                      refine wpAnyH_take (i := 2) (v := ?_) rfl (by kernel_rfl) (by kernel_rfl) (by kernel_rfl) (fun _ _ _ h => h) (Or.inl ⟨by rfl, ?yh4_2⟩) (by assumption) ?qh4_2
                      case yh4_2 => (intro wz hSw; (try dsimp only at hSw); go_simp <;> with_reducible rfl)
                      try simp only [Act.put, List.getElem_toArray, List.getElem_cons_zero, List.getElem_cons_succ, List.setIfInBounds_toArray, List.set_cons_zero, List.set_cons_succ]
                      refine wpAnyH_take (i := 3) (v := ?_) rfl (by kernel_rfl) (by kernel_rfl) (by kernel_rfl) (fun _ _ _ h => h) (Or.inl ⟨by rfl, ?yh4_3⟩) (by assumption) ?qh4_3
                      case yh4_3 => (intro wz hSw; (try dsimp only at hSw); go_simp <;> with_reducible rfl)
                      try simp only [Act.put, List.getElem_toArray, List.getElem_cons_zero, List.getElem_cons_succ, List.setIfInBounds_toArray, List.set_cons_zero, List.set_cons_succ]
                      refine wpAnyH_take (i := 4) (v := ?_) rfl (by kernel_rfl) (by kernel_rfl) (by kernel_rfl) (fun _ _ _ h => h) (Or.inl ⟨by rfl, ?yh4_4⟩) (by assumption) ?qh4_4
                      case yh4_4 => (intro wz hSw; (try dsimp only at hSw); go_simp <;> with_reducible rfl)
                      try simp only [Act.put, List.getElem_toArray, List.getElem_cons_zero, List.getElem_cons_succ, List.setIfInBounds_toArray, List.set_cons_zero, List.set_cons_succ]
                      refine wpAnyH_take (i := 5) (v := ?_) rfl (by kernel_rfl) (by kernel_rfl) (by kernel_rfl) (fun _ _ _ h => h) (Or.inl ⟨by rfl, ?yh4_5⟩) (by assumption) ?qh4_5
                      case yh4_5 => (intro wz hSw; (try dsimp only at hSw); go_simp <;> with_reducible rfl)
                      try simp only [Act.put, List.getElem_toArray, List.getElem_cons_zero, List.getElem_cons_succ, List.setIfInBounds_toArray, List.set_cons_zero, List.set_cons_succ]
                      refine wpAnyH_take (i := 6) (v := ?_) rfl (by kernel_rfl) (by kernel_rfl) (by kernel_rfl) (fun _ _ _ h => h) (Or.inl ⟨by rfl, ?yh4_6⟩) (by assumption) ?qh4_6
                      case yh4_6 => (intro wz hSw; (try dsimp only at hSw); go_simp <;> with_reducible rfl)
                      try simp only [Act.put, List.getElem_toArray, List.getElem_cons_zero, List.getElem_cons_succ, List.setIfInBounds_toArray, List.set_cons_zero, List.set_cons_succ]
                      refine wpAnyH_take (i := 7) (v := ?_) rfl (by kernel_rfl) (by kernel_rfl) (by kernel_rfl) (fun _ _ _ h => h) (Or.inl ⟨by rfl, ?yh4_7⟩) (by assumption) ?qh4_7
                      case yh4_7 => (intro wz hSw; (try dsimp only at hSw); go_simp <;> with_reducible rfl)
                      try simp only [Act.put, List.getElem_toArray, List.getElem_cons_zero, List.getElem_cons_succ, List.setIfInBounds_toArray, List.set_cons_zero, List.set_cons_succ]
                      refine wpAnyH_take (i := 8) (v := ?_) rfl (by kernel_rfl) (by kernel_rfl) (by kernel_rfl) (fun _ _ _ h => h) (Or.inl ⟨by rfl, ?yh4_8⟩) (by assumption) ?qh4_8
                      case yh4_8 => (intro wz hSw; (try dsimp only at hSw); go_simp <;> with_reducible rfl)
                      try simp only [Act.put, List.getElem_toArray, List.getElem_cons_zero, List.getElem_cons_succ, List.setIfInBounds_toArray, List.set_cons_zero, List.set_cons_succ]
                      refine wpAnyH_take (i := 9) (v := ?_) rfl (by kernel_rfl) (by kernel_rfl) (by kernel_rfl) (fun _ _ _ h => h) (Or.inl ⟨by rfl, ?yh4_9⟩) (by assumption) ?qh4_9
                      case yh4_9 => (intro wz hSw; (try dsimp only at hSw); go_simp <;> with_reducible rfl)
                      try simp only [Act.put, List.getElem_toArray, List.getElem_cons_zero, List.getElem_cons_succ, List.setIfInBounds_toArray, List.set_cons_zero, List.set_cons_succ]
                      refine wpAnyH_take (i := 10) (v := ?_) rfl (by kernel_rfl) (by kernel_rfl) (by kernel_rfl) (fun _ _ _ h => h) (Or.inl ⟨by rfl, ?yh4_10⟩) (by assumption) ?qh4_10
                      case yh4_10 => (intro wz hSw; (try dsimp only at hSw); go_simp <;> with_reducible rfl)
                      try simp only [Act.put, List.getElem_toArray, List.getElem_cons_zero, List.getElem_cons_succ, List.setIfInBounds_toArray, List.set_cons_zero, List.set_cons_succ]
                      refine wpAnyH_take (i := 11) (v := ?_) rfl (by kernel_rfl) (by kernel_rfl) (by kernel_rfl) (fun _ _ _ h => h) (Or.inl ⟨by rfl, ?yh4_11⟩) (by assumption) ?qh4_11
                      case yh4_11 => (intro wz hSw; (try dsimp only at hSw); go_simp <;> with_reducible rfl)
                      try simp only [Act.put, List.getElem_toArray, List.getElem_cons_zero, List.getElem_cons_succ, List.setIfInBounds_toArray, List.set_cons_zero, List.set_cons_succ]
                      refine wpAnyH_take (i := 12) (v := ?_) rfl (by kernel_rfl) (by kernel_rfl) (by kernel_rfl) (fun _ _ _ h => h) (Or.inl ⟨by rfl, ?yh4_12⟩) (by assumption) ?qh4_12
                      case yh4_12 => (intro wz hSw; (try dsimp only at hSw); go_simp <;> with_reducible rfl)
                      try simp only [Act.put, List.getElem_toArray, List.getElem_cons_zero, List.getElem_cons_succ, List.setIfInBounds_toArray, List.set_cons_zero, List.set_cons_succ]
                      refine wpAnyH_take (i := 13) (v := ?_) rfl (by kernel_rfl) (by kernel_rfl) (by kernel_rfl) (fun _ _ _ h => h) (Or.inl ⟨by rfl, ?yh4_13⟩) (by assumption) ?qh4_13
                      case yh4_13 => (intro wz hSw; (try dsimp only at hSw); go_simp <;> with_reducible rfl)
                      try simp only [Act.put, List.getElem_toArray, List.getElem_cons_zero, List.getElem_cons_succ, List.setIfInBounds_toArray, List.set_cons_zero, List.set_cons_succ]
                      refine wpAnyH_take (i := 14) (v := ?_) rfl (by kernel_rfl) (by kernel_rfl) (by kernel_rfl) (fun _ _ _ h => h) (Or.inl ⟨by rfl, ?yh4_14⟩) (by assumption) ?qh4_14
                      case yh4_14 => (intro wz hSw; (try dsimp only at hSw); go_simp <;> with_reducible rfl)
                      try simp only [Act.put, List.getElem_toArray, List.getElem_cons_zero, List.getElem_cons_succ, List.setIfInBounds_toArray, List.set_cons_zero, List.set_cons_succ]
                      refine wpAnyH_take (i := 15) (v := ?_) rfl (by kernel_rfl) (by kernel_rfl) (by kernel_rfl) (fun _ _ _ h => h) (Or.inl ⟨by rfl, ?yh4_15⟩) (by assumption) ?qh4_15
                      case yh4_15 => (intro wz hSw; (try dsimp only at hSw); go_simp <;> with_reducible rfl)
                      try simp only [Act.put, List.getElem_toArray, List.getElem_cons_zero, List.getElem_cons_succ, List.setIfInBounds_toArray, List.set_cons_zero, List.set_cons_succ]
                      refine wpAnyH_take (i := 16) (v := ?_) rfl (by kernel_rfl) (by kernel_rfl) (by kernel_rfl) (fun _ _ _ h => h) (Or.inl ⟨by rfl, ?yh4_16⟩) (by assumption) ?qh4_16
                      case yh4_16 => (intro wz hSw; (try dsimp only at hSw); go_simp <;> with_reducible rfl)
                      try simp only [Act.put, List.getElem_toArray, List.getElem_cons_zero, List.getElem_cons_succ, List.setIfInBounds_toArray, List.set_cons_zero, List.set_cons_succ]
                      refine wpAnyH_ready (rs := [17]) (by kernel_rfl) (by simp) ?_
                      refine AllReadyH.cons rfl (fun K hK => ?_) AllReadyH.nil
                      repeat (first | (refine (HPX.out XD HD.out.1.aft).mono ?_) | go_step)
                      rintro e w5 ⟨rfl, ha⟩
                      have HD5 : Hid (CU w ba bl nl bn nn LA NX bh w5 (1000 * n2 + 200 * k + 2 * j) (fun e => ((FT e + sumO NX LA P ti true (tl.take (j)) e : Nat) : Int)) ∧ w5.heap[wA.heap.size]? = some bx ∧ w5.heap[b9]? = some (boxO ⟨true, xk, xt, xn⟩)) := Lib.hid ⟨HD.out.1.after ha, (ha.block _ (heap_lt HD.out.2.1)).trans HD.out.2.1, (ha.block _ (heap_lt HD.out.2.2)).trans HD.out.2.2⟩
                      clear ha
                      refine hK.out _ _ (HCZ.out _ HD5.out.2.1 HD5.out.2.2) (fun hHeld1 => ?_)
                      clear hK K
                      try simp only [Act.put, List.getElem_toArray, List.getElem_cons_zero, List.getElem_cons_succ, List.setIfInBounds_toArray, List.set_cons_zero, List.set_cons_succ]
                      cases pk with
                      | false =>
                        have HRC : Hid (rc = false) := Lib.hid (by rw [HRC.out]; rfl)
                        refine wpAnyH_take (i := 18) (v := ?_) rfl (by kernel_rfl) (by kernel_rfl) (by kernel_rfl) (fun _ _ _ h => h) (Or.inl ⟨by rfl, ?yh5_18⟩) (by assumption) ?qh5_18
                        case yh5_18 => (intro wz hSw; (try dsimp only at hSw); go_simp <;> with_reducible rfl)
                        try simp only [Act.put, List.getElem_toArray, List.getElem_cons_zero, List.getElem_cons_succ, List.setIfInBounds_toArray, List.set_cons_zero, List.set_cons_succ]
                        refine wpAnyH_take (i := 19) (v := ?_) rfl (by kernel_rfl) (by kernel_rfl) (by kernel_rfl) (fun _ _ _ h => h) (Or.inl ⟨by rfl, ?yh5_19⟩) (by assumption) ?qh5_19
                        case yh5_19 => (intro wz hSw; (try dsimp only at hSw); go_simp <;> with_reducible rfl)
                        try simp only [Act.put, List.getElem_toArray, List.getElem_cons_zero, List.getElem_cons_succ, List.setIfInBounds_toArray, List.set_cons_zero, List.set_cons_succ]
                        refine wpAnyH_take (i := 20) (v := undef) rfl (by kernel_rfl) (by kernel_rfl) (by kernel_rfl) (fun _ _ _ h => h) (Or.inr ⟨by rfl, rfl⟩) (by assumption) ?_
                        try simp only [Act.put, List.getElem_toArray, List.getElem_cons_zero, List.getElem_cons_succ, List.setIfInBounds_toArray, List.set_cons_zero, List.set_cons_succ]
                        refine wpAnyH_take (i := 21) (v := undef) rfl (by kernel_rfl) (by kernel_rfl) (by kernel_rfl) (fun _ _ _ h => h) (Or.inr ⟨by rfl, rfl⟩) (by assumption) ?_
                        try simp only [Act.put, List.getElem_toArray, List.getElem_cons_zero, List.getElem_cons_succ, List.setIfInBounds_toArray, List.set_cons_zero, List.set_cons_succ]
                        refine wpAnyH_take (i := 22) (v := undef) rfl (by kernel_rfl) (by kernel_rfl) (by kernel_rfl) (fun _ _ _ h => h) (Or.inr ⟨by rfl, rfl⟩) (by assumption) ?_
                        try simp only [Act.put, List.getElem_toArray, List.getElem_cons_zero, List.getElem_cons_succ, List.setIfInBounds_toArray, List.set_cons_zero, List.set_cons_succ]
                        refine wpAnyH_take (i := 23) (v := undef) rfl (by kernel_rfl) (by kernel_rfl) (by kernel_rfl) (fun _ _ _ h => h) (Or.inr ⟨by rfl, rfl⟩) (by assumption) ?_
                        try simp only [Act.put, List.getElem_toArray, List.getElem_cons_zero, List.getElem_cons_succ, List.setIfInBounds_toArray, List.set_cons_zero, List.set_cons_succ]
                        refine wpAnyH_take (i := 24) (v := undef) rfl (by kernel_rfl) (by kernel_rfl) (by kernel_rfl) (fun _ _ _ h => h) (Or.inr ⟨by rfl, rfl⟩) (by assumption) ?_
                        try simp only [Act.put, List.getElem_toArray, List.getElem_cons_zero, List.getElem_cons_succ, List.setIfInBounds_toArray, List.set_cons_zero, List.set_cons_succ]
                        refine wpAnyH_take (i := 25) (v := undef) rfl (by kernel_rfl) (by kernel_rfl) (by kernel_rfl) (fun _ _ _ h => h) (Or.inr ⟨by rfl, rfl⟩) (by assumption) ?_
                        try simp only [Act.put, List.getElem_toArray, List.getElem_cons_zero, List.getElem_cons_succ, List.setIfInBounds_toArray, List.set_cons_zero, List.set_cons_succ]
                        refine wpAnyH_take (i := 26) (v := undef) rfl (by kernel_rfl) (by kernel_rfl) (by kernel_rfl) (fun _ _ _ h => h) (Or.inr ⟨by rfl, rfl⟩) (by assumption) ?_
                        try simp only [Act.put, List.getElem_toArray, List.getElem_cons_zero, List.getElem_cons_succ, List.setIfInBounds_toArray, List.set_cons_zero, List.set_cons_succ]
                        refine wpAnyH_take (i := 27) (v := undef) rfl (by kernel_rfl) (by kernel_rfl) (by kernel_rfl) (fun _ _ _ h => h) (Or.inr ⟨by rfl, rfl⟩) (by assumption) ?_
                        try simp only [Act.put, List.getElem_toArray, List.getElem_cons_zero, List.getElem_cons_succ, List.setIfInBounds_toArray, List.set_cons_zero, List.set_cons_succ]
                        refine wpAnyH_take (i := 28) (v := undef) rfl (by kernel_rfl) (by kernel_rfl) (by kernel_rfl) (fun _ _ _ h => h) (Or.inr ⟨by rfl, rfl⟩) (by assumption) ?_
                        try simp only [Act.put, List.getElem_toArray, List.getElem_cons_zero, List.getElem_cons_succ, List.setIfInBounds_toArray, List.set_cons_zero, List.set_cons_succ]
                        refine wpAnyH_take (i := 29) (v := undef) rfl (by kernel_rfl) (by kernel_rfl) (by kernel_rfl) (fun _ _ _ h => h) (Or.inr ⟨by rfl, rfl⟩) (by assumption) ?_
                        try simp only [Act.put, List.getElem_toArray, List.getElem_cons_zero, List.getElem_cons_succ, List.setIfInBounds_toArray, List.set_cons_zero, List.set_cons_succ]
                        refine wpAnyH_take (i := 30) (v := ?_) rfl (by kernel_rfl) (by kernel_rfl) (by kernel_rfl) (fun _ _ _ h => h) (Or.inl ⟨by rfl, ?yh5_30⟩) (by assumption) ?qh5_30
                        case yh5_30 => (intro wz hSw; (try dsimp only at hSw); go_simp <;> with_reducible rfl)
                        try simp only [Act.put, List.getElem_toArray, List.getElem_cons_zero, List.getElem_cons_succ, List.setIfInBounds_toArray, List.set_cons_zero, List.set_cons_succ]
                        refine wpAnyH_done (by kernel_rfl) ?_ _
                        have HR : Hid (CU w ba bl nl bn nn LA NX bh w5 (1000 * n2 + 200 * k + 2 * (j + 1)) (fun e => ((FT e + sumO NX LA P ti true (tl.take (j + 1)) e : Nat) : Int)) ∧ w5.heap[wA.heap.size]? = some bx) := Lib.hid ⟨HD5.out.1.ext (fun e => HNO.out HRC.out e) (by omega), HD5.out.2.1⟩
                        clear hHeld0 hHeld1 HD5 HNO HYES HRC HRDX HLK HPX HCZ HD
                        go_wp2_with fail
                        go_roundw
                        case rel => exact ⟨j + 1, by go_num, by omega, HR⟩
                        case measure => simp [intOf]; omega
                      | true =>
                        have HRC : Hid (rc = decide (la = xn)) := Lib.hid (by rw [HRC.out]; rfl)
                        refine wpAnyH_take (i := 18) (v := ?_) rfl (by kernel_rfl) (by kernel_rfl) (by kernel_rfl) (fun _ _ _ h => h) (Or.inl ⟨by rfl, ?yh6_18⟩) (by assumption) ?qh6_18
                        case yh6_18 => (intro wz hSw; (try dsimp only at hSw); go_simp <;> with_reducible rfl)
                        try simp only [Act.put, List.getElem_toArray, List.getElem_cons_zero, List.getElem_cons_succ, List.setIfInBounds_toArray, List.set_cons_zero, List.set_cons_succ]
                        refine wpAnyH_take (i := 19) (v := ?_) rfl (by kernel_rfl) (by kernel_rfl) (by kernel_rfl) (fun _ _ _ h => h) (Or.inl ⟨by rfl, ?yh6_19⟩) (by assumption) ?qh6_19
                        case yh6_19 => (intro wz hSw; (try dsimp only at hSw); go_simp <;> with_reducible rfl)
                        try simp only [Act.put, List.getElem_toArray, List.getElem_cons_zero, List.getElem_cons_succ, List.setIfInBounds_toArray, List.set_cons_zero, List.set_cons_succ]
                        refine wpAnyH_take (i := 20) (v := ?_) rfl (by kernel_rfl) (by kernel_rfl) (by kernel_rfl) (fun _ _ _ h => h) (Or.inl ⟨by rfl, ?yh6_20⟩) (by assumption) ?qh6_20
                        case yh6_20 => (intro wz hSw; (try dsimp only at hSw); go_simp <;> with_reducible rfl)
                        try simp only [Act.put, List.getElem_toArray, List.getElem_cons_zero, List.getElem_cons_succ, List.setIfInBounds_toArray, List.set_cons_zero, List.set_cons_succ]
                        refine wpAnyH_take (i := 21) (v := ?_) rfl (by kernel_rfl) (by kernel_rfl) (by kernel_rfl) (fun _ _ _ h => h) (Or.inl ⟨by rfl, ?yh6_21⟩) (by assumption) ?qh6_21
                        case yh6_21 => (intro wz hSw; (try dsimp only at hSw); go_simp <;> with_reducible rfl)
                        try simp only [Act.put, List.getElem_toArray, List.getElem_cons_zero, List.getElem_cons_succ, List.setIfInBounds_toArray, List.set_cons_zero, List.set_cons_succ]
                        refine wpAnyH_take (i := 22) (v := ?_) rfl (by kernel_rfl) (by kernel_rfl) (by kernel_rfl) (fun _ _ _ h => h) (Or.inl ⟨by rfl, ?yh6_22⟩) (by assumption) ?qh6_22
                        case yh6_22 => (intro wz hSw; (try dsimp only at hSw); go_simp <;> with_reducible rfl)
                        try simp only [Act.put, List.getElem_toArray, List.getElem_cons_zero, List.getElem_cons_succ, List.setIfInBounds_toArray, List.set_cons_zero, List.set_cons_succ]
                        refine wpAnyH_take (i := 23) (v := ?_) rfl (by kernel_rfl) (by kernel_rfl) (by kernel_rfl) (fun _ _ _ h => h) (Or.inl ⟨by rfl, ?yh6_23⟩) (by assumption) ?qh6_23
                        case yh6_23 => (intro wz hSw; (try dsimp only at hSw); go_simp <;> with_reducible rfl)
                        try simp only [Act.put, List.getElem_toArray, List.getElem_cons_zero, List.getElem_cons_succ, List.setIfInBounds_toArray, List.set_cons_zero, List.set_cons_succ]
                        refine wpAnyH_take (i := 24) (v := ?_) rfl (by kernel_rfl) (by kernel_rfl) (by kernel_rfl) (fun _ _ _ h => h) (Or.inl ⟨by rfl, ?yh6_24⟩) (by assumption) ?qh6_24
                        case yh6_24 => (intro wz hSw; (try dsimp only at hSw); go_simp <;> with_reducible rfl)
                        try simp only [Act.put, List.getElem_toArray, List.getElem_cons_zero, List.getElem_cons_succ, List.setIfInBounds_toArray, List.set_cons_zero, List.set_cons_succ]
                        refine wpAnyH_take (i := 25) (v := ?_) rfl (by kernel_rfl) (by kernel_rfl) (by kernel_rfl) (fun _ _ _ h => h) (Or.inl ⟨by rfl, ?yh6_25⟩) (by assumption) ?qh6_25
                        case yh6_25 => (intro wz hSw; (try dsimp only at hSw); go_simp <;> with_reducible rfl)
                        try simp only [Act.put, List.getElem_toArray, List.getElem_cons_zero, List.getElem_cons_succ, List.setIfInBounds_toArray, List.set_cons_zero, List.set_cons_succ]
                        refine wpAnyH_take (i := 27) (v := ?_) rfl (by kernel_rfl) (by kernel_rfl) (by kernel_rfl) (fun _ _ _ h => h) (Or.inl ⟨by rfl, ?yh6_27⟩) (by assumption) ?qh6_27
                        case yh6_27 => (intro wz hSw; (try dsimp only at hSw); go_simp <;> with_reducible rfl)
                        try simp only [Act.put, List.getElem_toArray, List.getElem_cons_zero, List.getElem_cons_succ, List.setIfInBounds_toArray, List.set_cons_zero, List.set_cons_succ]
                        refine wpAnyH_take (i := 28) (v := ?_) rfl (by kernel_rfl) (by kernel_rfl) (by kernel_rfl) (fun _ _ _ h => h) (Or.inl ⟨by rfl, ?yh6_28⟩) (by assumption) ?qh6_28
                        case yh6_28 => (intro wz hSw; (try dsimp only at hSw); go_simp <;> with_reducible rfl)
                        try simp only [Act.put, List.getElem_toArray, List.getElem_cons_zero, List.getElem_cons_succ, List.setIfInBounds_toArray, List.set_cons_zero, List.set_cons_succ]
                        refine wpAnyH_ready (rs := [26]) (by kernel_rfl) (by simp) ?_
                        refine AllReadyH.cons rfl (fun K hK => ?_) AllReadyH.nil
                        refine step_lookupG (by rfl) (.tmp 81) (.tmp 86) rfl (b := bl) (key := .agg #[.int .i64 xt, .int .i64 xk]) (by simp [Act.eval]) (by simp [Act.eval]) (HLK.out w5 HD5.out.1.ml) ?_
                        refine hK.out _ _ hHeld1 (fun hHeld2 => ?_)
                        clear hK K
                        try simp only [Act.put, List.getElem_toArray, List.getElem_cons_zero, List.getElem_cons_succ, List.setIfInBounds_toArray, List.set_cons_zero, List.set_cons_succ]
                        by_cases hla : la = xn
                        · have hlab : (la == xn) = true := by simp [hla]
                          have HRC : Hid (rc = true) := Lib.hid (by rw [HRC.out]; simp [hla])
                          clear hla
                          refine wpAnyH_take (i := 29) (v := ?_) rfl (by kernel_rfl) (by kernel_rfl) (by kernel_rfl) (fun _ _ _ h => h) (Or.inl ⟨by rfl, ?yh7_29⟩) (by assumption) ?qh7_29
                          case yh7_29 => (intro wz hSw; (try dsimp only at hSw); go_simp <;> with_reducible rfl)
                          try simp only [Act.put, List.getElem_toArray, List.getElem_cons_zero, List.getElem_cons_succ, List.setIfInBounds_toArray, List.set_cons_zero, List.set_cons_succ]
                          refine wpAnyH_take (i := 30) (v := ?_) rfl (by kernel_rfl) (by kernel_rfl) (by kernel_rfl) (fun _ _ _ h => h) (Or.inl ⟨by rfl, ?yh7_30⟩) (by assumption) ?qh7_30
                          case yh7_30 => (intro wz hSw; (try dsimp only at hSw); go_simp <;> with_reducible rfl)
                          try simp only [Act.put, List.getElem_toArray, List.getElem_cons_zero, List.getElem_cons_succ, List.setIfInBounds_toArray, List.set_cons_zero, List.set_cons_succ]
                          refine wpAnyH_done (by kernel_rfl) ?_ _
                          obtain ⟨⟨k0, k1⟩, k2, k3, k4, k5⟩ := HCZ.out _ HD5.out.2.1 HD5.out.2.2
                          have HRD := Lib.hid (HRDX.out w5 (1000 * n2 + 200 * k + 2 * j) HD5.out.1 (by have := HN2.out; have := HOL2.out; simp only [maxLen]; omega))
                          clear hHeld0 hHeld1 hHeld2 HNO HRDX HLK HPX HD HCZ
                          go_wp2_with fail
                          refine HRD.out.mono ?_
                          rintro e w6 ⟨rfl, n', hn', hme, hg6⟩
                          have HR : Hid (CU w ba bl nl bn nn LA NX bh w6 (1000 * n2 + 200 * k + 2 * (j + 1)) (fun e => ((FT e + sumO NX LA P ti true (tl.take (j + 1)) e : Nat) : Int)) ∧ w6.heap[wA.heap.size]? = some bx) := Lib.hid ⟨(HD5.out.1.turn hg6 hme).ext (fun e => HYES.out HRC.out e) (by omega), (hg6.block _ (heap_lt HD5.out.2.1) (fun e => by injection e with e; have := HBA.out; omega)).trans HD5.out.2.1⟩
                          clear hn' hme hg6 HRD HD5 HYES HRC k0 k1 k2 k3 k4 k5
                          go_wp2_with fail
                          go_roundw
                          case rel => exact ⟨j + 1, by go_num, by omega, HR⟩
                          case measure => simp [intOf]; omega
                        · have hlab : (la == xn) = false := by simp [hla]
                          have HRC : Hid (rc = false) := Lib.hid (by rw [HRC.out]; simp [hla])
                          clear hla
                          refine wpAnyH_take (i := 29) (v := ?_) rfl (by kernel_rfl) (by kernel_rfl) (by kernel_rfl) (fun _ _ _ h => h) (Or.inl ⟨by rfl, ?yh8_29⟩) (by assumption) ?qh8_29
                          case yh8_29 => (intro wz hSw; (try dsimp only at hSw); go_simp <;> with_reducible rfl)
                          try simp only [Act.put, List.getElem_toArray, List.getElem_cons_zero, List.getElem_cons_succ, List.setIfInBounds_toArray, List.set_cons_zero, List.set_cons_succ]
                          refine wpAnyH_take (i := 30) (v := ?_) rfl (by kernel_rfl) (by kernel_rfl) (by kernel_rfl) (fun _ _ _ h => h) (Or.inl ⟨by rfl, ?yh8_30⟩) (by assumption) ?qh8_30
                          case yh8_30 => (intro wz hSw; (try dsimp only at hSw); go_simp <;> with_reducible rfl)
                          try simp only [Act.put, List.getElem_toArray, List.getElem_cons_zero, List.getElem_cons_succ, List.setIfInBounds_toArray, List.set_cons_zero, List.set_cons_succ]
                          refine wpAnyH_done (by kernel_rfl) ?_ _
                          have HR : Hid (CU w ba bl nl bn nn LA NX bh w5 (1000 * n2 + 200 * k + 2 * (j + 1)) (fun e => ((FT e + sumO NX LA P ti true (tl.take (j + 1)) e : Nat) : Int)) ∧ w5.heap[wA.heap.size]? = some bx) := Lib.hid ⟨HD5.out.1.ext (fun e => HNO.out HRC.out e) (by omega), HD5.out.2.1⟩
                          clear hHeld0 hHeld1 hHeld2 HD5 HNO HYES HRC HRDX HLK HPX HCZ HD
                          go_wp2_with fail
                          go_roundw
                          case rel => exact ⟨j + 1, by go_num, by omega, HR⟩
                          case measure => simp [intOf]; omega
              · have hje : j = tn := by omega
                have HR : Hid (CU w ba bl nl bn nn LA NX bh wr (1000 * n2 + 200 * (k + 1)) (fun e => ((WW e + sumT NX LA P (h.txs.take (k + 1)) e : Nat) : Int))) := Lib.hid (HS.out.1.ext (fun e => by rw [HTK.out, hje, HTN.out, List.take_length, HFT.out]; simp only; omega) (by omega))
                clear HS hje
                go_wp2_with fail
                go_roundw
                case rel => exact ⟨k + 1, by go_num, by omega, HR⟩
                case measure => simp [intOf]; omega
          · have hke : k = n1 := by omega
            have HFIN : Hid (Post (.returned (.map (some ba))) wA) := Lib.hid (HE.out _ _ wA (by have := HN1.out; have := HN2.out; omega) (HS.out.me.ext fun e => by rw [HCN2.out, hke, HN1.out, List.take_length]) HS.out.aft)
            clear HS hke
            go_wp2_with fail
            exact HFIN.out
      · intro fr ky cv kl w1 cnt1 hkl hlx hfx hwc hmr1 hlt hg1 hs1 hen
        have HST := Lib.hid (HS.out.step hg1 hmr1 hlt (fun e => rfl))
        have HLE : Hid (m1 + 1 + cnt1 ≤ 1000 * n2) := Lib.hid (by have := HS.out.2.2.1; omega)
        have HLT : Hid (cnt1 < wr.rangeLeft bn r) := Lib.hid (by rw [HMR.out.left_eq]; exact hlt)
        obtain ⟨hof, hokk, hoc⟩ := HOK.out _ _ hfx
        have HOE : Hid (Edg.ok ⟨fr, cv, 1, ky⟩) := Lib.hid ⟨hof, hoc, by unfold i64; simp, hokk⟩
        have HFX := Lib.hid hfx
        have HLX := Lib.hid hlx
        unfold gH at hen
        obtain ⟨X1, hX1⟩ : ∃ X1, X1 = w1.alloc (.cells #[.int .i64 fr, .int .i64 ky] 77) := ⟨_, rfl⟩
        have HX1 : Hid (CT w ba bl nl bn r nn (1000 * n2) LA NX bh X1 (fun z => left z && !decide (z = (fr, ky))) cnt1 m1 (fun e => ((wwF NX left e : Nat) : Int)) ∧ X1.heap[w1.heap.size]? = some (.cells #[.int .i64 fr, .int .i64 ky] 77)) := Lib.hid ⟨by rw [hX1]; exact HST.out.lay _, by rw [hX1]; exact heap_alloc_at _ _ _ rfl⟩
        have HRB : Hid (ba < w1.heap.size) := Lib.hid HST.out.1.me.lt
        have HCX : Hid (∀ Z : World, Z.heap[w1.heap.size]? = some (.cells #[.int .i64 fr, .int .i64 ky] 77) → Z.cell? ⟨w1.heap.size, 0, none⟩ = some (.int .i64 fr) ∧ Z.cell? ⟨w1.heap.size, 1, none⟩ = some (.int .i64 ky)) := Lib.hid fun Z hZ => by simp [World.cell?, hZ]
        obtain ⟨k0, k1⟩ := HCX.out X1 HX1.out.2
        have hxl := heap_lt HX1.out.2
        clear hkl hlx hfx hwc hmr1 hlt hg1 hs1 hof hokk hoc HST HS HMR
        by_cases h0 : fr = 0
        · have HR : Hid (CT w ba bl nl bn r nn (1000 * n2) LA NX bh X1 (fun z => left z && !decide (z = (fr, ky))) cnt1 m1 (fun e => ((wwF NX (fun z => left z && !decide (z = (fr, ky))) e : Nat) : Int))) := Lib.hid ⟨HX1.out.1.1.ext (fun e => by rw [ww_skip h0]) (Nat.le_refl _), HX1.out.1.2⟩
          have h0b : (fr != 0) = false := by simp [h0]
          clear HX1 HCX h0
          go_upto_region 8 with fail
          rw [← hX1]
          clear hX1 hen
          go_wp2_with fail
          go_roundw
          case rel => exact ⟨_, cnt1, m1, HR⟩
          case measure => rw [HR.out.2.1.left_eq]; exact HLT.out
        · have h0b : (fr != 0) = true := by simp [h0]
          have HWB := Lib.hid (ww_bump HFX.out HLX.out h0)
          clear h0 HFX HLX
          go_upto_region 8 with fail
          rw [← hX1]
          clear hX1 hen
          go_upto_region 10 with fail
          clear k0 k1 hxl
          obtain ⟨XD, hXD⟩ : ∃ W, W = X1.drew := ⟨_, rfl⟩
          have HD : Hid (CT w ba bl nl bn r nn (1000 * n2) LA NX bh XD (fun z => left z && !decide (z = (fr, ky))) cnt1 m1 (fun e => ((wwF NX left e : Nat) : Int)) ∧ XD.heap[w1.heap.size]? = some (.cells #[.int .i64 fr, .int .i64 ky] 77)) := Lib.hid (by rw [hXD]; exact ⟨HX1.out.1.drew, HX1.out.2⟩)
          have HBX : Hid (BumpE XD ba m1 (fun e => ((wwF NX (fun z => left z && !decide (z = (fr, ky))) e : Nat) : Int)) ⟨fr, cv, 1, ky⟩ 0) := Lib.hid (by
            have := me_bump (F1 := fun e => ((wwF NX (fun z => left z && !decide (z = (fr, ky))) e : Nat) : Int)) HD.out.1.1.me (by have := HLE.out; have := HOL2.out; have := HN2.out; simp only [maxLen]; omega) HOE.out (by rw [HWB.out.1]; omega) (by rw [HWB.out.2.1, HWB.out.1]; rfl) (fun e he => by rw [HWB.out.2.2 e he])
            rw [HWB.out.1] at this
            exact this)
          have HCK : Hid (∀ Z, XD.grownBy Z (some ba) → Z.cell? ⟨w1.heap.size, 0, none⟩ = some (.int .i64 fr) ∧ Z.cell? ⟨w1.heap.size, 1, none⟩ = some (.int .i64 ky)) := Lib.hid fun Z hZ => HCX.out Z ((hZ.block _ (heap_lt HD.out.2) (fun e => by injection e with e; have := HRB.out; omega)).trans HD.out.2)
          have H0 := Lib.hid (HCX.out XD HD.out.2)
          have hw : IntKind.i64.wrap 1 = 1 := by rw [IntKind.wrap_i64] <;> omega
          clear HX1
          refine wp_region_held_drew (S := fun Z => Z.cell? ⟨w1.heap.size, 0, none⟩ = some (.int .i64 fr) ∧ Z.cell? ⟨w1.heap.size, 1, none⟩ = some (.int .i64 ky)) (by kernel_rfl) (hXD ▸ H0.out) (fun hHeld0 => ?_)
          rw [← hXD] at hHeld0 ⊢
          clear hXD H0
          refine wpAnyH_take (i := 0) (v := ?_) rfl (by kernel_rfl) (by kernel_rfl) (by kernel_rfl) (fun _ _ _ h => h) (Or.inl ⟨by rfl, ?yg0⟩) (by assumption) ?qg0
          case yg0 => (intro wz hSw; (try dsimp only at hSw); go_simp <;> with_reducible rfl)
          try simp only [Act.put, List.getElem_toArray, List.getElem_cons_zero, List.setIfInBounds_toArray, List.set_cons_zero, List.set_cons_succ]
          refine wpAnyH_take (i := 1) (v := ?_) rfl (by kernel_rfl) (by kernel_rfl) (by kernel_rfl) (fun _ _ _ h => h) (Or.inl ⟨by rfl, ?yg1⟩) (by assumption) ?qg1
          case yg1 => (intro wz hSw; (try dsimp only at hSw); go_simp <;> with_reducible rfl)
          try simp only [Act.put, List.getElem_toArray, List.getElem_cons_zero, List.getElem_cons_succ, List.setIfInBounds_toArray, List.set_cons_zero, List.set_cons_succ]
          refine wpAnyH_take (i := 2) (v := ?_) rfl (by kernel_rfl) (by kernel_rfl) (by kernel_rfl) (fun _ _ _ h => h) (Or.inl ⟨by rfl, ?yg2⟩) (by assumption) ?qg2
          case yg2 => (intro wz hSw; (try dsimp only at hSw); go_simp <;> with_reducible rfl)
          try simp only [Act.put, List.getElem_toArray, List.getElem_cons_zero, List.getElem_cons_succ, List.setIfInBounds_toArray, List.set_cons_zero, List.set_cons_succ]
          refine wpAnyH_take (i := 3) (v := ?_) rfl (by kernel_rfl) (by kernel_rfl) (by kernel_rfl) (fun _ _ _ h => h) (Or.inl ⟨by rfl, ?yg3⟩) (by assumption) ?qg3
          case yg3 => (intro wz hSw; (try dsimp only at hSw); go_simp <;> with_reducible rfl)
          try simp only [Act.put, List.getElem_toArray, List.getElem_cons_zero, List.getElem_cons_succ, List.setIfInBounds_toArray, List.set_cons_zero, List.set_cons_succ]
          refine wpAnyH_take (i := 4) (v := ?_) rfl (by kernel_rfl) (by kernel_rfl) (by kernel_rfl) (fun _ _ _ h => h) (Or.inl ⟨by rfl, ?yg4⟩) (by assumption) ?qg4
          case yg4 => (intro wz hSw; (try dsimp only at hSw); go_simp <;> with_reducible rfl)
          try simp only [Act.put, List.getElem_toArray, List.getElem_cons_zero, List.getElem_cons_succ, List.setIfInBounds_toArray, List.set_cons_zero, List.set_cons_succ]
          refine wpAnyH_take (i := 5) (v := ?_) rfl (by kernel_rfl) (by kernel_rfl) (by kernel_rfl) (fun _ _ _ h => h) (Or.inl ⟨by rfl, ?yg5⟩) (by assumption) ?qg5
          case yg5 => (intro wz hSw; (try dsimp only at hSw); go_simp <;> with_reducible rfl)
          try simp only [Act.put, List.getElem_toArray, List.getElem_cons_zero, List.getElem_cons_succ, List.setIfInBounds_toArray, List.set_cons_zero, List.set_cons_succ]
          obtain ⟨q0, st, w1, r1, r3, r2, w3, r4, r5, r6⟩ := HBX.out
          have HS0 := Lib.hid q0
          have HS1 := Lib.hid r2
          have HR1 := Lib.hid r1
          have HR4 := Lib.hid r4
          have HC1 := Lib.hid (HCK.out w1 r3)
          have HC3 := Lib.hid (HCK.out w3 (World.grownBy.trans r3 r6))
          have HMF := Lib.hid r5
          have HG := Lib.hid (World.grownBy.trans r3 r6)
          clear q0 r1 r2 r3 r4 r5 r6 HBX HCK
          refine wpAnyH_ready (rs := [6, 8]) (by kernel_rfl) (by simp) ?_
          refine AllReadyH.cons rfl (fun K hK => ?ordgA) ?restgA
          case ordgA =>
            refine step_lookup rfl (.tmp 37) (.tmp 42) rfl (b := ba) (key := .agg #[.int .i64 fr, .int .i64 cv, .int .i64 1, .int .i64 ky]) (by simp [Act.eval]) (by simp [Act.eval]) HS0.out ?_
            refine hK.out _ _ hHeld0 (fun hHeldL => ?_)
            clear hK K
            try simp only [Act.put, List.getElem_toArray, List.getElem_cons_zero, List.getElem_cons_succ, List.setIfInBounds_toArray, List.set_cons_zero, List.set_cons_succ]
            refine wpAnyH_take (i := 7) (v := ?_) rfl (by kernel_rfl) (by kernel_rfl) (by kernel_rfl) (fun _ _ _ h => h) (Or.inl ⟨by rfl, ?yga7⟩) (by assumption) ?qga7
            case yga7 => (intro wz hSw; (try dsimp only at hSw); go_simp <;> with_reducible rfl)
            try simp only [Act.put, List.getElem_toArray, List.getElem_cons_zero, List.getElem_cons_succ, List.setIfInBounds_toArray, List.set_cons_zero, List.set_cons_succ]
            clear hHeldL
            refine wpAnyH_ready (rs := [8]) (by kernel_rfl) (by simp) ?_
            refine AllReadyH.cons rfl (fun K hK => ?_) AllReadyH.nil
            refine Mp.step_entry rfl (.tmp 37) (.tmp 42) rfl (b := ba) (key := .agg #[.int .i64 fr, .int .i64 cv, .int .i64 1, .int .i64 ky]) (by simp [Act.eval]) (by simp [Act.eval]) HR1.out ?_
            refine hK.out _ _ HC1.out (fun hHeldE => ?_)
            clear hK K
            try simp only [Act.put, List.getElem_toArray, List.getElem_cons_zero, List.getElem_cons_succ, List.setIfInBounds_toArray, List.set_cons_zero, List.set_cons_succ]
            refine wpAnyH_take (i := 9) (v := ?_) rfl (by kernel_rfl) (by kernel_rfl) (by kernel_rfl) (fun _ _ _ h => h) (Or.inl ⟨by rfl, ?ygc9⟩) (by assumption) ?qgc9
            case ygc9 => (intro wz hSw; (try dsimp only at hSw); go_simp <;> with_reducible rfl)
            try simp only [Act.put, List.getElem_toArray, List.getElem_cons_zero, List.getElem_cons_succ, List.setIfInBounds_toArray, List.set_cons_zero, List.set_cons_succ]
            refine wpAnyH_ready (rs := [10]) (by kernel_rfl) (by simp) ?_
            refine AllReadyH.cons rfl (fun K hK => ?_) AllReadyH.nil
            refine Mp.step_entryStore rfl (.tmp 37) (.tmp 46) (.tmp 44) rfl (b := ba) (st := goInt st) (val := .int .i64 ((0 : Int) + 1)) (by simp [Act.eval]) (by simp [Act.eval, goInt]) (by simp [Act.eval]) HR4.out ?_
            refine hK.out _ _ HC3.out (fun hHeldS => ?_)
            clear hK K
            try simp only [Act.put, List.getElem_toArray, List.getElem_cons_zero, List.getElem_cons_succ]
            refine wpAnyH_done (by kernel_rfl) ?_ _
            clear hHeld0 hHeldE hHeldS HC1 HC3 HS0 HS1 HR1 HR4
            have HR := Lib.hid (HD.out.1.turn HG.out HMF.out HLE.out)
            clear HMF HG HD HLE HWB HOE
            go_wp2_with fail
            go_roundw
            case rel => exact ⟨_, cnt1, m1 + 1, HR⟩
            case measure => rw [HR.out.2.1.left_eq]; exact HLT.out
          refine AllReadyH.cons rfl (fun K hK => ?ordgB) AllReadyH.nil
          case ordgB =>
            refine Mp.step_entry rfl (.tmp 37) (.tmp 42) rfl (b := ba) (key := .agg #[.int .i64 fr, .int .i64 cv, .int .i64 1, .int .i64 ky]) (by simp [Act.eval]) (by simp [Act.eval]) HR1.out ?_
            refine hK.out _ _ HC1.out (fun hHeldE => ?_)
            clear hK K
            try simp only [Act.put, List.getElem_toArray, List.getElem_cons_zero, List.getElem_cons_succ, List.setIfInBounds_toArray, List.set_cons_zero, List.set_cons_succ]
            refine wpAnyH_take (i := 9) (v := ?_) rfl (by kernel_rfl) (by kernel_rfl) (by kernel_rfl) (fun _ _ _ h => h) (Or.inl ⟨by rfl, ?ygd9⟩) (by assumption) ?qgd9
            case ygd9 => (intro wz hSw; (try dsimp only at hSw); go_simp <;> with_reducible rfl)
            try simp only [Act.put, List.getElem_toArray, List.getElem_cons_zero, List.getElem_cons_succ, List.setIfInBounds_toArray, List.set_cons_zero, List.set_cons_succ]
            refine wpAnyH_ready (rs := [6]) (by kernel_rfl) (by simp) ?_
            refine AllReadyH.cons rfl (fun K hK => ?_) AllReadyH.nil
            refine step_lookup rfl (.tmp 37) (.tmp 42) rfl (b := ba) (key := .agg #[.int .i64 fr, .int .i64 cv, .int .i64 1, .int .i64 ky]) (by simp [Act.eval]) (by simp [Act.eval]) HS1.out ?_
            refine hK.out _ _ hHeldE (fun hHeldL => ?_)
            clear hK K
            try simp only [Act.put, List.getElem_toArray, List.getElem_cons_zero, List.getElem_cons_succ, List.setIfInBounds_toArray, List.set_cons_zero, List.set_cons_succ]
            refine wpAnyH_take (i := 7) (v := ?_) rfl (by kernel_rfl) (by kernel_rfl) (by kernel_rfl) (fun _ _ _ h => h) (Or.inl ⟨by rfl, ?ygb7⟩) (by assumption) ?qgb7
            case ygb7 => (intro wz hSw; (try dsimp only at hSw); go_simp <;> with_reducible rfl)
            try simp only [Act.put, List.getElem_toArray, List.getElem_cons_zero, List.getElem_cons_succ, List.setIfInBounds_toArray, List.set_cons_zero, List.set_cons_succ]
            clear hHeldL
            refine wpAnyH_ready (rs := [10]) (by kernel_rfl) (by simp) ?_
            refine AllReadyH.cons rfl (fun K hK => ?_) AllReadyH.nil
            refine Mp.step_entryStore rfl (.tmp 37) (.tmp 46) (.tmp 44) rfl (b := ba) (st := goInt st) (val := .int .i64 ((0 : Int) + 1)) (by simp [Act.eval]) (by simp [Act.eval, goInt]) (by simp [Act.eval]) HR4.out ?_
            refine hK.out _ _ HC3.out (fun hHeldS => ?_)
            clear hK K
            try simp only [Act.put, List.getElem_toArray, List.getElem_cons_zero, List.getElem_cons_succ]
            refine wpAnyH_done (by kernel_rfl) ?_ _
            clear hHeld0 hHeldE hHeldS HC1 HC3 HS0 HS1 HR1 HR4
            have HR := Lib.hid (HD.out.1.turn HG.out HMF.out HLE.out)
            clear HMF HG HD HLE HWB HOE
            go_wp2_with fail
            go_roundw
            case rel => exact ⟨_, cnt1, m1 + 1, HR⟩
            case measure => rw [HR.out.2.1.left_eq]; exact HLT.out
end Go.Proofs.YtcmafmdcgkpagaaGreat.Dg
namespace Go.Proofs.YtcmafmdcgkpagaaGreat.Dg
open Go.ChangeShapes Go.WideShapes Go.ChangeAt Go.RowKit Base F Tx Hi Off
set_option maxRecDepth 100000 in
theorem only_any (key : Int) (w : World) : Calls Tryz.prog 23 #[.int .i64 key] w fun e w' => e = .returned (.func (.func 42) #[] #[.pointer (some ⟨w.heap.size, 0, none⟩)]) ∧ w' = w.alloc (.cells #[.int .i64 key] 3) := by
  go_enter Tryz.func23, Tryz.ntmps23
  go_wp2
  go_ret
  exact ⟨rfl, rfl⟩
theorem only_in (key : Int) {g : Nat} (Y : World) (k : Int) (e : Y.heap[g]? = some (.cells #[.int .i64 key] 3)) : Calls Tryz.prog 42 (#[] ++ #[.int .i64 k] ++ #[.pointer (some ⟨g, 0, none⟩)]) Y (BoolNew (k == key) Y) := by
  have hl := heap_lt e
  have c0 : Y.cell? ⟨g, 0, none⟩ = some (.int .i64 key) := by simp [World.cell?, e]
  clear e
  go_enter Tryz.func42, Tryz.ntmps42
  go_wp2
  go_ret
  exact ⟨rfl, Aft.refl _⟩
set_option maxRecDepth 100000 in
set_option maxHeartbeats 16000000 in
theorem Count_any {v u : Value} {h : Hist} (w : World) (hh : HistV w v u h) (hs : HistSm h) (e : Edg) (he : Edg.ok e) : Calls Tryz.prog 11 #[.agg #[v, u], gE e] w (IntNew ((cntE h (fun k => k == e.k) e : Nat) : Int) w) := by
  obtain ⟨p, c, hv, _⟩ := hh.1.form
  obtain ⟨q, d, hu, _⟩ := hh.2.form
  subst hv hu
  obtain ⟨f, t, kd, k⟩ := e
  obtain ⟨X0, hX0⟩ : ∃ X, X = (w.alloc (.cells #[.slice p h.txs.length c, .slice q h.ords.length d] 25)).alloc (.cells #[.int .i64 f, .int .i64 t, .int .i64 kd, .int .i64 k] 27) := ⟨_, rfl⟩
  obtain ⟨X, hX⟩ : ∃ X, X = X0.drew := ⟨_, rfl⟩
  have HA : Hid (Aft w X) := Lib.hid (by rw [hX, hX0]; exact ((Aft.one _).lay _).drew 1)
  have HB : Hid (∀ Z, Aft X Z → (Z.cell? ⟨w.heap.size, 0, none⟩ = some (.slice p h.txs.length c) ∧ Z.cell? ⟨w.heap.size, 1, none⟩ = some (.slice q h.ords.length d)) ∧ Z.cell? ⟨w.heap.size + 1, 0, none⟩ = some (.int .i64 f) ∧ Z.cell? ⟨w.heap.size + 1, 1, none⟩ = some (.int .i64 t) ∧ Z.cell? ⟨w.heap.size + 1, 2, none⟩ = some (.int .i64 kd) ∧ Z.cell? ⟨w.heap.size + 1, 3, none⟩ = some (.int .i64 k)) := Lib.hid fun Z hZ => by
    have e0 : X.heap[w.heap.size]? = some (.cells #[.slice p h.txs.length c, .slice q h.ords.length d] 25) := by rw [hX, hX0]; exact heap_alloc_lt _ _ _ _ (heap_alloc_at _ _ _ rfl)
    have e1 : X.heap[w.heap.size + 1]? = some (.cells #[.int .i64 f, .int .i64 t, .int .i64 kd, .int .i64 k] 27) := by rw [hX, hX0]; exact heap_alloc_at _ _ _ (by simp)
    have k0 := (hZ.block _ (heap_lt e0)).trans e0
    have k1 := (hZ.block _ (heap_lt e1)).trans e1
    simp [World.cell?, k0, k1]
  have HO := Lib.hid (only_any k X)
  have HC : Hid (∀ W, Aft X W → W.heap[X.heap.size]? = some (.cells #[.int .i64 k] 3) → Calls Tryz.prog 21 #[.agg #[.slice p h.txs.length c, .slice q h.ords.length d], .func (.func 42) #[] #[.pointer (some ⟨X.heap.size, 0, none⟩)]] W (CtP h (fun z => z == k) W)) := Lib.hid fun W hW hg => count_any W (hh.below (HA.out.trans hW)) hs (fun z => z == k) rfl (enters_of Tryz.func42 (by kernel_rfl) rfl) (fun Y z hY => only_in k Y z ((hY.block _ (heap_lt hg)).trans hg))
  have HLK : Hid (∀ W b n, ME W b n (fun e => ((cntE h (fun z => z == k) e : Nat) : Int)) → (Instr.lookup 52 (.map (some b)) (.agg #[.int .i64 f, .int .i64 t, .int .i64 kd, .int .i64 k]) false).run Tryz.prog W = .ok (.int .i64 ((cntE h (fun z => z == k) ⟨f, t, kd, k⟩ : Nat) : Int)) W) := Lib.hid fun W b n hm => me_look hm he
  have HE : Hid (∀ W, Aft X W → IntNew ((cntE h (fun k_1 => k_1 == k) ⟨f, t, kd, k⟩ : Nat) : Int) w (.returned (.int .i64 ((cntE h (fun z => z == k) ⟨f, t, kd, k⟩ : Nat) : Int))) W) := Lib.hid fun W hW => ⟨rfl, HA.out.trans hW⟩
  generalize IntNew ((cntE h (fun k_1 => k_1 == k) ⟨f, t, kd, k⟩ : Nat) : Int) w = Post at HE ⊢
  generalize h.txs.length = n1 at *
  generalize h.ords.length = n2 at *
  generalize ((cntE h (fun z => z == k) ⟨f, t, kd, k⟩ : Nat) : Int) = res at HE HLK
  unfold gE
  dsimp only
  clear hh hs he
  go_enter Tryz.func11, Tryz.ntmps11
  go_upto_region 1 with fail
  rw [← hX0]
  clear hX0
  refine wp_region_held_drew (S := fun Z => (Z.cell? ⟨w.heap.size, 0, none⟩ = some (.slice p n1 c) ∧ Z.cell? ⟨w.heap.size, 1, none⟩ = some (.slice q n2 d)) ∧ Z.cell? ⟨w.heap.size + 1, 0, none⟩ = some (.int .i64 f) ∧ Z.cell? ⟨w.heap.size + 1, 1, none⟩ = some (.int .i64 t) ∧ Z.cell? ⟨w.heap.size + 1, 2, none⟩ = some (.int .i64 kd) ∧ Z.cell? ⟨w.heap.size + 1, 3, none⟩ = some (.int .i64 k)) (by kernel_rfl) (hX ▸ HB.out _ (Aft.refl _)) (fun hHeld0 => ?_)
  rw [← hX] at hHeld0 ⊢
  clear hX
  refine wpAnyH_take (i := 0) (v := ?_) rfl (by kernel_rfl) (by kernel_rfl) (by kernel_rfl) (fun _ _ _ h => h) (Or.inl ⟨by rfl, ?ys0⟩) (by assumption) ?qs0
  case ys0 => (intro wz hSw; (try dsimp only at hSw); go_simp <;> with_reducible rfl)
  try simp only [Act.put, List.getElem_toArray, List.getElem_cons_zero, List.setIfInBounds_toArray, List.set_cons_zero, List.set_cons_succ]
  refine wpAnyH_take (i := 1) (v := ?_) rfl (by kernel_rfl) (by kernel_rfl) (by kernel_rfl) (fun _ _ _ h => h) (Or.inl ⟨by rfl, ?ys1⟩) (by assumption) ?qs1
  case ys1 => (intro wz hSw; (try dsimp only at hSw); go_simp <;> with_reducible rfl)
  try simp only [Act.put, List.getElem_toArray, List.getElem_cons_zero, List.getElem_cons_succ, List.setIfInBounds_toArray, List.set_cons_zero, List.set_cons_succ]
  refine wpAnyH_take (i := 2) (v := ?_) rfl (by kernel_rfl) (by kernel_rfl) (by kernel_rfl) (fun _ _ _ h => h) (Or.inl ⟨by rfl, ?ys2⟩) (by assumption) ?qs2
  case ys2 => (intro wz hSw; (try dsimp only at hSw); go_simp <;> with_reducible rfl)
  try simp only [Act.put, List.getElem_toArray, List.getElem_cons_zero, List.getElem_cons_succ, List.setIfInBounds_toArray, List.set_cons_zero, List.set_cons_succ]
  refine wpAnyH_take (i := 5) (v := ?_) rfl (by kernel_rfl) (by kernel_rfl) (by kernel_rfl) (fun _ _ _ h => h) (Or.inl ⟨by rfl, ?ys5⟩) (by assumption) ?qs5
  case ys5 => (intro wz hSw; (try dsimp only at hSw); go_simp <;> with_reducible rfl)
  try simp only [Act.put, List.getElem_toArray, List.getElem_cons_zero, List.getElem_cons_succ, List.setIfInBounds_toArray, List.set_cons_zero, List.set_cons_succ]
  refine wpAnyH_ready (rs := [3]) (by kernel_rfl) (by simp) ?_
  refine AllReadyH.cons rfl (fun K hK => ?_) AllReadyH.nil
  go_simp
  refine HO.out.mono ?_
  rintro e w2 ⟨rfl, hw2⟩
  have HA2 : Hid (Aft X w2 ∧ w2.heap[X.heap.size]? = some (.cells #[.int .i64 k] 3)) := Lib.hid ⟨by rw [hw2]; exact Aft.one _, by rw [hw2]; exact heap_alloc_at _ _ _ rfl⟩
  clear hw2 HO
  refine hK.out _ _ (HB.out _ HA2.out.1) (fun hHeld1 => ?_)
  clear hK K
  try simp only [Act.put, List.getElem_toArray, List.getElem_cons_zero, List.getElem_cons_succ, List.setIfInBounds_toArray, List.set_cons_zero, List.set_cons_succ]
  refine wpAnyH_ready (rs := [4]) (by kernel_rfl) (by simp) ?_
  refine AllReadyH.cons rfl (fun K hK => ?_) AllReadyH.nil
  go_simp
  refine (HC.out w2 HA2.out.1 HA2.out.2).mono ?_
  rintro e w3 ⟨b3, n3, rfl, _, hm3, ha⟩
  have HA3 : Hid (Aft X w3) := Lib.hid (HA2.out.1.trans ha)
  have HL3 := Lib.hid (HLK.out _ _ _ hm3)
  clear ha hm3 HC HLK
  refine hK.out _ _ (HB.out _ HA3.out) (fun hHeld2 => ?_)
  clear hK K
  try simp only [Act.put, List.getElem_toArray, List.getElem_cons_zero, List.getElem_cons_succ, List.setIfInBounds_toArray, List.set_cons_zero, List.set_cons_succ]
  refine wpAnyH_ready (rs := [6]) (by kernel_rfl) (by simp) ?_
  refine AllReadyH.cons rfl (fun K hK => ?_) AllReadyH.nil
  refine step_lookup rfl (.tmp 9) (.tmp 10) rfl (b := b3) (key := .agg #[.int .i64 f, .int .i64 t, .int .i64 kd, .int .i64 k]) (by simp [Act.eval]) (by simp [Act.eval]) HL3.out ?_
  refine hK.out _ _ hHeld2 (fun hHeld3 => ?_)
  clear hK K
  try simp only [Act.put, List.getElem_toArray, List.getElem_cons_zero, List.getElem_cons_succ, List.setIfInBounds_toArray, List.set_cons_zero, List.set_cons_succ]
  refine wpAnyH_take (i := 7) (v := ?_) rfl (by kernel_rfl) (by kernel_rfl) (by kernel_rfl) (fun _ _ _ h => h) (Or.inl ⟨by rfl, ?ys7⟩) (by assumption) ?qs7
  case ys7 => (intro wz hSw; (try dsimp only at hSw); go_simp <;> with_reducible rfl)
  try simp only [Act.put, List.getElem_toArray, List.getElem_cons_zero, List.getElem_cons_succ, List.setIfInBounds_toArray, List.set_cons_zero, List.set_cons_succ]
  refine wpAnyH_done (by kernel_rfl) ?_ _
  clear hHeld0 hHeld1 hHeld2 hHeld3 HL3
  go_wp2_with fail
  exact HE.out _ HA3.out
end Go.Proofs.YtcmafmdcgkpagaaGreat.Dg
