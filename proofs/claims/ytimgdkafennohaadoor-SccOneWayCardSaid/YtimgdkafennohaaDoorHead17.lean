/-
  Contracts of small functions, several texts laid into one. Not a statement of the seat.
-/
import Derived.Test.YtimgdkafennohaaDoorHead16
import Derived.RangeFuncGives
import Derived.RangeFuncNested
import Derived.RangeFuncBound
import Derived.RangeFuncCalls
import Derived.RangeFuncLeaves
import Derived.Shelf.RegionOpen
import Derived.OwnWalkIn
import Derived.TacticsInMore
import Derived.LoopNIn
import Derived.LoopIn
namespace Go.Proofs.YtimgdkafennohaaDoor.Gr
open Go.ChangeShapes Go.WideShapes Go.ChangeAt Go.RowKit Go.Shelf Base Ro F Dl Ln
/-- The numbers of a stretch. -/
def selX (xs : List Nat) (f t : Nat) : List Nat := (xs.drop (posU xs f)).takeWhile (fun x => decide (x < t))
theorem takeWhile_end {l : List Nat} {t k : Nat} (h : ∀ j, j < k → l.getD j 0 < t) (hk : k = l.length ∨ (k < l.length ∧ t ≤ l.getD k 0)) : l.takeWhile (fun x => decide (x < t)) = l.take k := by
  induction l generalizing k with
  | nil => simp
  | cons a l ih =>
    rcases k with _ | k
    · rcases hk with hk | ⟨_, hk⟩
      · simp at hk
      · simp only [List.getD_cons_zero] at hk
        rw [List.takeWhile_cons, if_neg (by simp; omega)]; rfl
    · have h0 := h 0 (by omega)
      simp only [List.getD_cons_zero] at h0
      rw [List.takeWhile_cons, if_pos (by simp; omega), List.take_succ_cons, ih (k := k) (fun j hj => by simpa using h (j + 1) (by omega)) (by
        rcases hk with hk | ⟨h1, h2⟩
        · left; simpa using hk
        · right; exact ⟨by simpa using h1, by simpa using h2⟩)]
/-- What the iterator reads stays. -/
def BtK (w : World) (c0 c1 c2 b f t : Nat) (V : Value) (W : World) : Prop :=
  (W.cell? ⟨c0, 0, none⟩ = some (.pointer (some ⟨b, 0, none⟩)) ∧ W.cell? ⟨c1, 0, none⟩ = some (.int .u64 (f : Int)) ∧ W.cell? ⟨c2, 0, none⟩ = some (.int .u64 (t : Int))) ∧ b < W.heap.size ∧ W.cell? ⟨b, 0, none⟩ = some V ∧ ∀ (g : Nat) (cs : Array Value) (T : TypeId), w.heap[g]? = some (Obj.cells cs T (0, 0)) → (T = 61 ∨ T = 83) → W.heap[g]? = w.heap[g]?
set_option maxRecDepth 100000 in
set_option maxHeartbeats 8000000 in
theorem between1_any {c0 c1 c2 b B f t : Nat} {xs : List Nat} {V : Value} (w W : World) (hL : LsAt w B V xs) (hg : GoodX xs) (l m : Nat) (J : List Nat → World → Prop)
    (hJ : ∀ pre W W', J pre W → Below W.heap.size W W' → J pre W') (hK : ∀ pre W, J pre W → BtK w c0 c1 c2 b f t V W)
    (hY : ∀ pre x rest W1, selX xs f t = pre ++ x :: rest → J pre W1 → YieldAt Fence.wide m Tryd.prog l #[.int .u64 ((x : Nat) : Int)] W1 fun e W' => e = .returned (.bool true) ∧ J (pre ++ [x]) W')
    (h0 : J [] W) : Calls Tryd.prog 57 #[.func (.yield l) #[] #[], .pointer (some ⟨c0, 0, none⟩), .pointer (some ⟨c1, 0, none⟩), .pointer (some ⟨c2, 0, none⟩)] W fun e W' => (∃ v, e = .returned v) ∧ J (selX xs f t) W' := by
  have HK := Lib.hid hK
  have HJ := Lib.hid hJ
  have HY := Lib.hid hY
  have HG := Lib.hid hg
  obtain ⟨⟨k0, k1, k2⟩, kb, kV, kk⟩ := hK _ _ h0
  have HS := Lib.hid (seek_any f W (ls_same hL kk) hg kV kb)
  have H0 := Lib.hid h0
  obtain ⟨vp, vc, hVf⟩ := hL.form
  have HLL := Lib.hid hL
  clear hK hJ hY h0 kV kk kb hL
  unfold SeekP at HS
  rcases List.eq_nil_or_concat xs with hx | ⟨ys, y, hx⟩
  · have hsel : selX xs f t = [] := by rw [hx]; rfl
    have hsk : seekV xs f = (0, 0, false) := by rw [hx]; rfl
    rw [hsk] at HS
    rw [hsel]
    go_enter Tryd.func57, Tryd.ntmps57
    go_wp2_with fail
    refine HS.out.mono ?_
    rintro e w1 ⟨rfl, hb⟩
    have HN := Lib.hid (HJ.out _ _ _ H0.out hb)
    clear hb HS
    go_wp2_with fail
    go_loopw [5] (fun s5 wr => s5 = .int .i64 0 ∧ Hid (J [] wr)) (fun _ _ => 0)
    case atStart => exact ⟨rfl, HN⟩
    case round =>
      obtain ⟨rfl, HN2⟩ := hrel
      obtain ⟨⟨j0, j1, j2⟩, jb, jV, _⟩ := HK.out _ _ HN2.out
      rw [if_pos hx] at hVf
      rw [hVf] at jV
      clear jb hVf
      go_wp2
      exact bodyPost_end (v := .tuple #[]) (results_none rfl _ _ _) rfl ⟨⟨_, rfl⟩, HN2.out⟩
  · have hne : xs ≠ [] := by rw [hx]; simp
    have hpl : 0 < xs.length := List.length_pos_iff.2 hne
    have hln := hg.2.1
    by_cases hlast : xs.getD (xs.length - 1) 0 < f
    · have hsel : selX xs f t = [] := by
        unfold selX
        rw [up_last hg.1 hlast, List.drop_length]; rfl
      have hsk : seekV xs f = (1, 0, false) := by unfold seekV; rw [if_neg hne, if_pos hlast]
      rw [hsk] at HS
      rw [hsel]
      clear hlast
      go_enter Tryd.func57, Tryd.ntmps57
      go_wp2_with fail
      refine HS.out.mono ?_
      rintro e w1 ⟨rfl, hb⟩
      have HN := Lib.hid (HJ.out _ _ _ H0.out hb)
      clear hb HS
      go_wp2_with fail
      go_loopw [5] (fun s5 wr => s5 = .int .i64 1 ∧ Hid (J [] wr)) (fun _ _ => 0)
      case atStart => exact ⟨rfl, HN⟩
      case round =>
        obtain ⟨rfl, HN2⟩ := hrel
        obtain ⟨⟨j0, j1, j2⟩, jb, jV, _⟩ := HK.out _ _ HN2.out
        rw [if_neg hne] at hVf
        rw [hVf] at jV
        clear jb hVf
        go_wp2
        exact bodyPost_end (v := .tuple #[]) (results_none rfl _ _ _) rfl ⟨⟨_, rfl⟩, HN2.out⟩
    · have hsk : seekV xs f = (0, (posU xs f : Int), decide (posU xs f < xs.length ∧ xs.getD (posU xs f) 0 = f)) := by unfold seekV; rw [if_neg hne, if_neg hlast]
      rw [hsk] at HS
      have hp : posU xs f < xs.length := by
        have h1 := posU_le xs f
        rcases Nat.lt_or_eq_of_le h1 with h2 | h2
        · exact h2
        · exact absurd (posU_lt xs f (xs.length - 1) (by omega)) hlast
      -- what the stretch is, by where it ends
      have HSEL : Hid (∀ k, (∀ j, j < k → xs.getD (posU xs f + j) 0 < t) → (k = xs.length - posU xs f ∨ (k < xs.length - posU xs f ∧ t ≤ xs.getD (posU xs f + k) 0)) → selX xs f t = (xs.drop (posU xs f)).take k) := Lib.hid fun k h1 h2 => by
        have e : ∀ j, (xs.drop (posU xs f)).getD j 0 = xs.getD (posU xs f + j) 0 := fun j => by simp [List.getD_eq_getElem?_getD, List.getElem?_drop]
        unfold selX
        refine takeWhile_end (fun j hj => by rw [e]; exact h1 j hj) ?_
        rw [List.length_drop, e]
        exact h2
      have HPRE : Hid (∀ k, (∀ j, j < k → xs.getD (posU xs f + j) 0 < t) → posU xs f + k < xs.length → xs.getD (posU xs f + k) 0 < t → (∃ rest, selX xs f t = (xs.drop (posU xs f)).take k ++ xs.getD (posU xs f + k) 0 :: rest) ∧ (xs.drop (posU xs f)).take (k + 1) = (xs.drop (posU xs f)).take k ++ [xs.getD (posU xs f + k) 0]) := Lib.hid fun k h1 h2 h3 => by
        have hk : k < (xs.drop (posU xs f)).length := by rw [List.length_drop]; omega
        have e : (xs.drop (posU xs f))[k] = xs.getD (posU xs f + k) 0 := by
          rw [List.getElem_drop, List.getD_eq_getElem?_getD, List.getElem?_eq_getElem h2]; rfl
        have e2 : (xs.drop (posU xs f)).take (k + 1) = (xs.drop (posU xs f)).take k ++ [xs.getD (posU xs f + k) 0] := by
          rw [List.take_succ_eq_append_getElem hk, e]
        refine ⟨?_, e2⟩
        unfold selX
        generalize hL : xs.drop (posU xs f) = L at *
        have hall : ∀ x ∈ L.take (k + 1), decide (x < t) = true := fun x hx => by
          rw [decide_eq_true_eq]
          rw [e2] at hx
          rcases List.mem_append.1 hx with hx | hx
          · obtain ⟨j, hj, rfl⟩ := List.getElem_of_mem hx
            rw [List.length_take] at hj
            have := h1 j (by omega)
            rw [List.getElem_take]
            have e3 : L[j]'(by omega) = xs.getD (posU xs f + j) 0 := by
              subst hL
              rw [List.getElem_drop, List.getD_eq_getElem?_getD, List.getElem?_eq_getElem (by omega)]; rfl
            rw [e3]; exact this
          · rw [List.mem_singleton] at hx; rw [hx]; exact h3
        refine ⟨(L.drop (k + 1)).takeWhile (fun x => decide (x < t)), ?_⟩
        conv => lhs; rw [← List.take_append_drop (k + 1) L]
        rw [List.takeWhile_append_of_pos hall, e2, List.append_assoc]
        rfl
      obtain ⟨res, hres⟩ : ∃ res, res = decide (posU xs f < xs.length ∧ xs.getD (posU xs f) 0 = f) := ⟨_, rfl⟩
      rw [← hres] at HS
      have hX : ∃ G C g cap, xs.length ≤ cap ∧ ∀ pre W, J pre W → W.cell? ⟨b, 0, none⟩ = some (.slice (some ⟨G, 0, none⟩) 1 C) ∧ W.cell? ⟨G, 0, none⟩ = some (.slice (some ⟨g, 0, none⟩) xs.length cap) ∧ ∀ k, k < xs.length → W.cell? ⟨g, k, none⟩ = some (.int .u64 (xs.getD k 0 : Nat)) := by
        rcases HLL.out with ⟨hz, _⟩ | ⟨_, g, cap, h1, h2⟩
        · exact absurd hz hne
        · obtain ⟨G, C, cur, hV, _, hG, _, _, _, hc0⟩ := out_row h1
          obtain ⟨c2, hg2, _⟩ := row_blk h2
          refine ⟨G, C, g, cap, ?_, fun pre W hW => ?_⟩
          · rcases h2.2 with ⟨h4, _⟩ | ⟨g', c', cur', h4, _, _, h5, _⟩
            · cases h4
            · injection h4 with _ _ h4; rw [h4]; exact h5
          · obtain ⟨_, _, jV, jk⟩ := HK.out _ _ hW
            refine ⟨by rw [jV, hV], ?_, fun k hk => ?_⟩
            · simp only [World.cell?, jk _ _ _ hG (.inr rfl), hG]; exact hc0
            · have := num_cell h2 k hk
              simp only [World.cell?, jk _ _ _ hg2 (.inl rfl)]
              exact this
      obtain ⟨G, C, g, cap, hcapN, hX⟩ := hX
      have HX := Lib.hid hX
      clear hX hVf HLL
      obtain ⟨p, hpe⟩ : ∃ p, p = posU xs f := ⟨_, rfl⟩
      rw [← hpe] at HS hp HSEL HPRE
      obtain ⟨N, hN⟩ : ∃ N, N = xs.length := ⟨_, rfl⟩
      have HNL := Lib.hid hN
      rw [← hN] at HX HSEL HPRE hp hln hpl hcapN
      have hpi : (p : Int) < (N : Int) := by omega
      clear hsk hlast hres hpe hne hx hN k2 hg
      go_enter Tryd.func57, Tryd.ntmps57
      go_wp2_with fail
      refine HS.out.mono ?_
      rintro e w1 ⟨rfl, hb⟩
      have HN := Lib.hid (HJ.out _ _ _ H0.out hb)
      clear hb HS k0 k1
      go_wp2_with fail
      go_loopw [5, 6] (fun s5 s6 wr => (s5 = .int .i64 0 ∧ s6 = .int .i64 (p : Int) ∧ Hid (J [] wr)) ∨ (s5 = .int .i64 1 ∧ s6 = .int .i64 0 ∧ Hid (J (selX xs f t) wr))) (fun s5 _ _ => (1 - intOf s5).toNat)
      case atStart => exact .inl ⟨rfl, rfl, HN⟩
      case round =>
        rcases hrel with ⟨rfl, rfl, HN2⟩ | ⟨rfl, rfl, HN2⟩
        · obtain ⟨j0, j1, j2⟩ := (HK.out _ _ HN2.out).1
          have x1 := (HX.out _ _ HN2.out).1
          have x2 := (HX.out _ _ HN2.out).2.1
          clear HN
          have hm : (N - p : Nat) = N - p := rfl
          go_wp2_with fail
          obtain ⟨M, hM⟩ : ∃ M, M = N - p := ⟨_, rfl⟩
          rw [← hM]
          have HM : Hid (M = N - p ∧ p < N ∧ N < 500) := Lib.hid ⟨hM, hp, hln⟩
          have hM5 : (M : Int) ≤ 500 := by omega
          clear hM hm hp hpi hln hpl hcapN x1 x2 j0 j1 j2
          go_loopw [36] (fun s36 wi => ∃ k : Nat, s36 = .int .i64 (k : Int) ∧ k ≤ M ∧ Hid ((∀ j, j < k → xs.getD (p + j) 0 < t) ∧ J ((xs.drop p).take k) wi)) (fun s36 _ => M - (intOf s36).toNat)
          case atStart => exact ⟨0, rfl, Nat.zero_le _, Lib.hid ⟨fun j hj => absurd hj (Nat.not_lt_zero _), HN2.out⟩⟩
          case round =>
            clear HN2
            obtain ⟨k, rfl, hk, HI⟩ := hrel
            obtain ⟨j0, j1, j2⟩ := (HK.out _ _ HI.out.2).1
            have x4 := (HX.out _ _ HI.out.2).2.2
            by_cases hlt : k < M
            · have x5 := x4 (p + k) (by have := HM.out; omega)
              have HP := Lib.hid (HPRE.out k HI.out.1 (by have := HM.out; omega))
              have HE := Lib.hid (HSEL.out k HI.out.1)
              clear x4
              obtain ⟨x, hxe⟩ : ∃ x, x = xs.getD (p + k) 0 := ⟨_, rfl⟩
              rw [← hxe] at x5 HP HE
              by_cases hx : x < t
              · have hxt : ¬ ((t : Int) ≤ (x : Int)) := by omega
                obtain ⟨⟨rest, hr⟩, he⟩ := HP.out hx
                have HYk := Lib.hid (HY.out _ _ _ _ hr HI.out.2)
                have HN3 : Hid (∀ W', J ((xs.drop p).take k ++ [x]) W' → (∀ j, j < k + 1 → xs.getD (p + j) 0 < t) ∧ J ((xs.drop p).take (k + 1)) W') := Lib.hid fun W' hW => ⟨fun j hj => by
                  rcases Nat.lt_or_eq_of_le (Nat.le_of_lt_succ hj) with h1 | h1
                  · exact HI.out.1 j h1
                  · rw [h1, ← hxe]; exact hx, by rw [he]; exact hW⟩
                clear hr he HP HE hx hxe
                go_upto_region 6 with fail
                obtain ⟨fn, tmps, assign, body, hy, hR⟩ := HYk.out
                clear HYk HI
                refine wpIn_wide (n := m + 1).1 ?_
                gi_wp2
                refine hR.mono ?_
                rintro e W3 ⟨rfl, hJ3⟩
                have HN4 := Lib.hid (HN3.out W3 hJ3)
                clear hy hR hJ3 HN3
                gi_wp2
                go_wp2_with fail
                go_roundw
                case rel => exact ⟨k + 1, by go_num, hlt, HN4⟩
                case measure => simp [intOf]; omega
              · have hxt : (t : Int) ≤ (x : Int) := by omega
                have HR : Hid (J (selX xs f t) wr) := Lib.hid (by rw [HE.out (.inr ⟨by have := HM.out; omega, by omega⟩)]; exact HI.out.2)
                clear HP HE hx hxe HI
                go_wp2
                first
                  | exact bodyPost_end (v := .tuple #[]) (results_none rfl _ _ _) rfl ⟨⟨_, rfl⟩, HR.out⟩
                  | exact bodyPost_ret (v := .tuple #[]) (results_none rfl _ _ _) rfl ⟨⟨_, rfl⟩, HR.out⟩
            · have HR : Hid (J (selX xs f t) wr) := Lib.hid (by rw [HSEL.out k HI.out.1 (.inl (by have := HM.out; omega))]; exact HI.out.2)
              clear HI x4
              go_wp2_with fail
              go_roundw
              case rel => exact .inr ⟨rfl, rfl, HR⟩
              case measure => simp [intOf]
        · obtain ⟨j0, j1, j2⟩ := (HK.out _ _ HN2.out).1
          have x1 := (HX.out _ _ HN2.out).1
          clear HN
          go_wp2
          exact bodyPost_end (v := .tuple #[]) (results_none rfl _ _ _) rfl ⟨⟨_, rfl⟩, HN2.out⟩
end Go.Proofs.YtimgdkafennohaaDoor.Gr
namespace Go.Proofs.YtimgdkafennohaaDoor.Gr
open Go.ChangeShapes Go.WideShapes Go.ChangeAt Go.RowKit Go.Shelf Base Ro F Dl Ln
attribute [local go_sem] Oper.semAt_some
theorem between_any {b : Nat} (f t : Nat) (w : World) : Calls Tryd.prog 38 #[.pointer (some ⟨b, 0, none⟩), .int .u64 (f : Int), .int .u64 (t : Int)] w fun e w' => e = .returned (.func (.func 57) #[] #[.pointer (some ⟨w.heap.size, 0, none⟩), .pointer (some ⟨w.heap.size + 1, 0, none⟩), .pointer (some ⟨w.heap.size + 2, 0, none⟩)]) ∧ w' = ((w.alloc (.cells #[.pointer (some ⟨b, 0, none⟩)] 80)).alloc (.cells #[.int .u64 (f : Int)] 61)).alloc (.cells #[.int .u64 (t : Int)] 61) := by
  go_enter Tryd.func38, Tryd.ntmps38
  go_wp2
  go_ret
  exact ⟨rfl, rfl⟩
/-- What a round keeps: what is no cells. -/
def RKc (W W' : World) : Prop := W.heap.size ≤ W'.heap.size ∧ ∀ (g : Nat) (o : Obj), W.heap[g]? = some o → o.isCells = false → W'.heap[g]? = some o
def RPc (I : List Nat → World → Prop) (ss : List Nat) (x : Nat) (W : World) : Exit → Act → World → Prop
  | .normal, _, W' => RKc W W' ∧ I (ss ++ [x]) W'
  | _, _, _ => False
theorem range_bt {c0 c1 c2 b B f t : Nat} {xs : List Nat} {V : Value} {g : Operand} {ps : Array Tmp} {assign body : Code} {Q : Exit → Act → World → Prop} {a : Act} {w0 w : World} {n0 m : Nat}
    (hL : LsAt w0 B V xs) (hgd : GoodX xs) (hps : ps.size = 1)
    (hg : a.eval g = .func (.func 57) #[] #[.pointer (some ⟨c0, 0, none⟩), .pointer (some ⟨c1, 0, none⟩), .pointer (some ⟨c2, 0, none⟩)])
    (I : List Nat → World → Prop) (hI : ∀ ss W W', I ss W → Below W.heap.size W W' → I ss W')
    (hP : ∀ ss W l (o : Obj) o', I ss W → W.heap[l]? = some o → o.isCells = false → w.heap.size ≤ l → I ss (W.putObj l o'))
    (hK : ∀ ss W, I ss W → BtK w0 c0 c1 c2 b f t V W)
    (h0 : I [] w) (a₁ : Nat → Act)
    (hassign : ∀ (l : Nat) (x : Nat) (W : World) (K : Act → World → Prop), K (a₁ x) W →
      assign.wpIn (Fence.wide.inRound l) m Tryd.prog (Exit.then K (fun _ _ _ => False)) { tmps := (ps.zip #[.int .u64 ((x : Nat) : Int)]).foldl (fun t (p, v) => t.setIfInBounds p v) a.tmps, defers := [] } W)
    (hbody : ∀ (l : Nat) (ss : List Nat) (x : Nat) (rest : List Nat) (W : World), selX xs f t = ss ++ x :: rest → I ss W → body.wpIn (Fence.wide.inRound l) m Tryd.prog (RPc I ss x W) (a₁ x) W)
    (hdone : ∀ (D : Nat) (W : World), w.heap.size ≤ D → I (selX xs f t) W → W.heap[D]? = some (.deferred (some [])) → Q .normal { a with defers := { target := .collected D, args := #[] } :: a.defers } W) :
    (Code.rangeFunc g ps assign body).wpIn Fence.wide n0 Tryd.prog Q a w := by
  have eg : ∀ args w, (callFunc 57 args).run Tryd.prog w = .ok (.enter 57 args) w := enters_of Tryd.func57 (by kernel_rfl) rfl
  refine wpIn_rangeFunc ?_
  intro fn hfn
  obtain ⟨rc, hrc⟩ : ∃ rc : LoopState → Option Code → Loop, rc = fun st pe => { state := st, pending := pe, fn, tmps := a.tmps, params := ps, assign, body, defers := w.heap.size } := ⟨_, rfl⟩
  obtain ⟨W1, hW1⟩ : ∃ W1, (w.alloc (.deferred (some []))).alloc (.loop (rc .ready none)) = W1 := ⟨_, rfl⟩
  have hL1 : W1.heap[w.heap.size + 1]? = some (.loop (rc .ready none)) := by rw [← hW1]; exact heap_alloc_at _ _ _ (by simp)
  have hD1 : W1.heap[w.heap.size]? = some (.deferred (some [])) := by rw [← hW1]; exact heap_alloc_lt _ _ _ _ (heap_alloc_at _ _ _ rfl)
  have hbw : Below w.heap.size w W1 := by rw [← hW1]; exact ((Below.refl _ w).alloc (Nat.le_refl _) _).alloc (by simp) _
  have hI1 : I [] W1 := hI _ _ _ h0 hbw
  refine ⟨w.heap.size + 1, [{ target := .collected w.heap.size, args := #[] }], W1, { target := .fn (.func 57) #[.pointer (some ⟨c0, 0, none⟩), .pointer (some ⟨c1, 0, none⟩), .pointer (some ⟨c2, 0, none⟩)], args := #[.func (.yield (w.heap.size + 1)) #[] #[]] }, W1, 57, #[.func (.yield (w.heap.size + 1)) #[] #[], .pointer (some ⟨c0, 0, none⟩), .pointer (some ⟨c1, 0, none⟩), .pointer (some ⟨c2, 0, none⟩)], W1, ?_, ?_, ?_, ?_, ?_, ?_⟩
  · rw [← hW1, hrc]; exact run_enterLoop_outer _ _ _ _ _
  · simp only [resolve, hg]
    simp [go_sem]
  · intro f' _; trivial
  · simp [invoke, go_sem, eg]
  · intro h; cases h
  · refine callsIn_wide.2 ((between1_any (c0 := c0) (c1 := c1) (c2 := c2) (b := b) (f := f) (t := t) w0 W1 hL hgd (w.heap.size + 1) m (fun ss W => I ss W ∧ W.heap[w.heap.size + 1]? = some (.loop (rc .ready none)) ∧ W.heap[w.heap.size]? = some (.deferred (some []))) ?step ?keep ?yield ⟨hI1, hL1, hD1⟩).mono ?_)
    case step =>
      rintro ss W W' ⟨h1, h2, h3⟩ hb
      exact ⟨hI _ _ _ h1 hb, (hb.block _ (heap_lt h2)).trans h2, (hb.block _ (heap_lt h3)).trans h3⟩
    case keep =>
      rintro ss W ⟨h1, _, _⟩
      exact hK _ _ h1
    case yield =>
      rintro ss x rest W hsel ⟨h1, h2, h3⟩
      have hy := run_yield (P := Tryd.prog) (args := #[.int .u64 ((x : Nat) : Int)]) h2 (by rw [hrc]; exact hps.symm)
      rw [hrc] at hy
      refine ⟨fn, _, assign, body, hy, roundIn_of_wpIn hfn (hassign _ x W _ ?_)⟩
      refine ⟨_, run_beginRound h2 (by rw [hrc]), ?_⟩
      obtain ⟨W3, hW3⟩ : ∃ W3, W3 = W.putObj (w.heap.size + 1) (.loop { rc .ready none with state := .busy }) := ⟨_, rfl⟩
      have l3 : W3.heap[w.heap.size + 1]? = some (.loop { rc .ready none with state := .busy }) := by rw [hW3]; exact World.putObj_heap_same (heap_lt h2)
      have d3 : W3.heap[w.heap.size]? = some (.deferred (some [])) := by rw [hW3]; exact (World.putObj_heap_other (by omega)).trans h3
      have i3 : I ss W3 := by rw [hW3]; exact hP _ _ _ _ _ h1 h2 rfl (by omega)
      rw [← hW3]
      refine wpIn_mono (hbody _ ss x rest W3 hsel i3) ?_
      rintro e a3 W4 hp
      cases e with
      | normal =>
        obtain ⟨⟨s4, k4⟩, i4⟩ := hp
        have l4 := k4 _ (.loop { rc .ready none with state := .busy }) l3 rfl
        have d4 := k4 _ (.deferred (some [])) d3 rfl
        have hr := run_endRound (P := Tryd.prog) none l4
        obtain ⟨W5, hW5⟩ : ∃ W5, W5 = W4.putObj (w.heap.size + 1) (.loop (rc .ready none)) := ⟨_, rfl⟩
        refine ⟨.bool true, W5, ?_, rfl, ?_, ?_, ?_⟩
        · rw [hrc] at hr
          rw [hW5, hrc]
          exact hr
        · rw [hW5]
          exact hP _ _ _ _ _ i4 l4 rfl (by omega)
        · rw [hW5]
          exact World.putObj_heap_same (heap_lt l4)
        · rw [hW5]
          exact (World.putObj_heap_other (by omega)).trans d4
      | ret => exact hp.elim
      | exit id => exact hp.elim
      | goto t => exact hp.elim
      | panic ch => exact hp.elim
      | outgrown => exact hp.elim
    rintro e W2 ⟨⟨v, rfl⟩, hi, hl, hd⟩
    refine ⟨none, _, by have := run_endLoop (P := Tryd.prog) hl (by rw [hrc]; simp); rw [hrc] at this; exact this, ?_⟩
    exact hdone _ _ (Nat.le_refl _) (hP _ _ _ _ _ hi hl rfl (by omega)) ((World.putObj_heap_other (by omega)).trans hd)
end Go.Proofs.YtimgdkafennohaaDoor.Gr
namespace Go.Proofs.YtimgdkafennohaaDoor.Gr
open Go.ChangeShapes Go.WideShapes Go.ChangeAt Go.RowKit Go.Shelf Base Ro F Dl Ln
attribute [local go_sem] Oper.semAt_some
/-- The arc of a number. -/
def arcX (x : Nat) : Arc := ⟨((x / 17179869184 : Nat) : Int), ((x % 4096 : Nat) : Int), ((x / 4294967296 % 4 : Nat) : Int), ((x / 4096 % 1048576 : Nat) : Int)⟩
theorem arcX_num (x : Nat) : ((x : Nat) : Int) = numI (arcX x).fr (arcX x).to (arcX x).kd (arcX x).lb := by
  unfold arcX numI
  dsimp only
  omega
theorem arcx_any (x : Nat) (hx : x < 70368744177664) (w : World) : Calls Tryd.prog 39 #[.int .u64 (x : Int)] w fun e w' => e = .returned (.agg #[.int .i64 (arcX x).fr, .int .i64 (arcX x).to, .int .i64 (arcX x).kd, .int .i64 (arcX x).lb]) ∧ Below w.heap.size w w' := by
  have h := arc_any (arcX x).fr (arcX x).to (arcX x).kd (arcX x).lb (by unfold arcX; dsimp only; omega) (by unfold arcX; dsimp only; omega) (by unfold arcX; dsimp only; omega) (by unfold arcX; dsimp only; omega) (by unfold arcX; dsimp only; omega) (by unfold arcX; dsimp only; omega) (by unfold arcX; dsimp only; omega) (by unfold arcX; dsimp only; omega) w
  rw [← arcX_num] at h
  exact h
theorem ownA_form {B : Nat} {w : World} {v : Value} {zs : List Arc} (h : OwnArc B w v zs) : (zs = [] ∧ v = .slice none 0 0) ∨ ∃ g cap, v = .slice (some ⟨g, 0, none⟩) zs.length cap ∧ B ≤ g ∧ g < w.heap.size ∧ zs.length ≤ cap := by
  rcases h.2 with ⟨hv, h0⟩ | ⟨g, cap, cur, hv, hB, hg, hc, _⟩
  · exact .inl ⟨List.length_eq_zero_iff.1 h0, hv⟩
  · exact .inr ⟨g, cap, hv, hB, heap_lt hg, hc⟩
theorem ownA_same {B : Nat} {w w' : World} {v : Value} {zs : List Arc} (h : OwnArc B w v zs) (hb : ∀ g, v.ownBlock = some g → w'.heap[g]? = w.heap[g]?) : OwnArc B w' v zs := by
  obtain ⟨h1, h2⟩ := h
  refine ⟨h1, ?_⟩
  rcases h2 with h2 | ⟨g, cap, cur, hv, hB, hg, h3⟩
  · exact .inl h2
  · exact .inr ⟨g, cap, cur, hv, hB, (hb g (by rw [hv]; rfl)).trans hg, h3⟩
theorem ownA_cells {B : Nat} {w : World} {v : Value} {zs : List Arc} (h : OwnArc B w v zs) {g : Nat} (hg : v.ownBlock = some g) : B ≤ g ∧ g < w.heap.size ∧ ∃ cur, w.heap[g]? = some (Obj.cells cur 24 (0, 0)) := by
  rcases h.2 with ⟨hv, _⟩ | ⟨g', cap, cur, hv, hB, hg', h3⟩
  · rw [hv] at hg; cases hg
  · rw [hv] at hg
    injection hg with hg
    subst hg
    exact ⟨hB, heap_lt hg', _, hg'⟩
theorem ownA_snoc {B : Nat} {w : World} {v : Value} {xs : List Arc} {x : Arc} {k : Nat} (h : OwnArc B w v (xs ++ [x])) (hk : xs.length = k) : ∃ p c, v = .slice p (k + 1) c := by
  rcases ownA_form h with ⟨hz, _⟩ | ⟨g, cap, hv, _⟩
  · simp at hz
  · exact ⟨_, _, by rw [hv, List.length_append, hk]; rfl⟩
/-- append, as one step of a region within a round. -/
theorem stepIn_append_arcs {F : Fence} {n : Nat} {ops : Array Oper} {o : Oper} {a : Act} {w : World} {K : Act → World → Prop} {Q : Exit → Act → World → Prop} {E : Prop} (hgd : o.guard = none) (s x : Operand)
    (ho : o.op = .call { callee := .builtin .append, args := #[s, x], argTypes := #[22, 22] }) {B base : Nat} {v u : Value} {zs ys : List Arc}
    (hB : B ≤ w.heap.size) (hown : OwnArc B w v zs) (hs : a.eval s = v) (hys : Arcs base w u ys) (hx : a.eval x = u) (hl : zs.length + ys.length ≤ 1000000)
    (hK : ∀ v' w', OwnArc B w' v' (zs ++ ys) → w.grownBy w' v.ownBlock → (v'.ownBlock = v.ownBlock ∨ v'.ownBlock = some w.heap.size) → K (a.put o.dst v') w') :
    if Region.wanted o (yielded ops a.tmps) = true then Oper.wpIn F n Tryd.prog o a w K Q else E := by
  rw [if_pos (by simp [Region.wanted, hgd])]
  obtain ⟨v', w', hr, h2, h3, h5⟩ := run_append_arcs o.type hB hown hys hl
  unfold Oper.wpIn
  refine ⟨?_, ?_⟩
  · simp [Oper.about, ho, resolve, Target.leads, Sem.run_pure]
  · rw [Oper.semAt_plain F _ _ (by rw [ho]; intro c hc; cases hc)]
    simp [execOp, ho, resolve, invoke, builtin, hs, hx, hr, Result.andThen]
    exact hK _ _ h2 h3 h5
/-- What the loop holds: the slice in its box, the iterator's boxes, what lay ahead. -/
def GI (w0 : World) (E b c0 c1 c2 f t : Nat) (zs : List Arc) (ss : List Nat) (W : World) : Prop :=
  Below w0.heap.size w0 W ∧ (∃ v, W.heap[E]? = some (.cells #[v] 22) ∧ OwnArc w0.heap.size W v (zs ++ ss.map arcX)) ∧
  W.heap[c0]? = some (.cells #[.pointer (some ⟨b, 0, none⟩)] 80) ∧ W.heap[c1]? = some (.cells #[.int .u64 (f : Int)] 61) ∧ W.heap[c2]? = some (.cells #[.int .u64 (t : Int)] 61)
theorem GI.below {w0 W W' : World} {E b c0 c1 c2 f t : Nat} {zs : List Arc} {ss : List Nat} (h : GI w0 E b c0 c1 c2 f t zs ss W) (hb : Below W.heap.size W W') : GI w0 E b c0 c1 c2 f t zs ss W' := by
  obtain ⟨h1, ⟨v, h2, h3⟩, h4, h5, h6⟩ := h
  exact ⟨h1.trans (hb.mono h1.size), ⟨v, (hb.block _ (heap_lt h2)).trans h2, h3.below hb⟩, (hb.block _ (heap_lt h4)).trans h4, (hb.block _ (heap_lt h5)).trans h5, (hb.block _ (heap_lt h6)).trans h6⟩
theorem GI.put {w0 W : World} {E b c0 c1 c2 f t l : Nat} {zs : List Arc} {ss : List Nat} {o : Obj} (o' : Obj) (h : GI w0 E b c0 c1 c2 f t zs ss W) (hl : W.heap[l]? = some o) (hc : o.isCells = false) (hw : w0.heap.size ≤ l) : GI w0 E b c0 c1 c2 f t zs ss (W.putObj l o') := by
  obtain ⟨h1, ⟨v, h2, h3⟩, h4, h5, h6⟩ := h
  have key : ∀ (g : Nat) (cs : Array Value) (T : TypeId), W.heap[g]? = some (Obj.cells cs T (0, 0)) → (W.putObj l o').heap[g]? = some (Obj.cells cs T (0, 0)) := fun g cs T hg => by
    refine (World.putObj_heap_other (fun e => ?_)).trans hg
    rw [e, hl] at hg
    injection hg with hg
    rw [hg] at hc
    cases hc
  refine ⟨h1.grown (row := some l) ⟨rfl, rfl, rfl, by simp, fun k _ hk => World.putObj_heap_other (fun e => hk (by rw [e]))⟩ h1.size (fun k e => by cases e; exact hw), ⟨v, key _ _ _ h2, ownA_same h3 fun g hg => ?_⟩, key _ _ _ h4, key _ _ _ h5, key _ _ _ h6⟩
  obtain ⟨_, _, cur, hcur⟩ := ownA_cells h3 hg
  exact (key _ _ _ hcur).trans hcur.symm
theorem GI.bt {w0 W : World} {E b c0 c1 c2 f t : Nat} {zs : List Arc} {ss : List Nat} {V : Value} {m : Nat} {N P : Value} (h : GI w0 E b c0 c1 c2 f t zs ss W) (hb : w0.heap[b]? = some (grB V m N P)) : BtK w0 c0 c1 c2 b f t V W := by
  obtain ⟨h1, _, h4, h5, h6⟩ := h
  have k := (h1.block b (heap_lt hb)).trans hb
  exact ⟨⟨by simp [World.cell?, h4], by simp [World.cell?, h5], by simp [World.cell?, h6]⟩, heap_lt k, (gr_cells k).1, fun g cs T hg _ => h1.block g (heap_lt hg)⟩
theorem set_boxA (W : World) (b : Nat) (v v' : Value) (T : TypeId) (h : W.heap[b]? = some (.cells #[v] T)) : (W.setCell ⟨b, 0, none⟩ v').heap[b]? = some (.cells #[v'] T) ∧ (∀ g, g ≠ b → (W.setCell ⟨b, 0, none⟩ v').heap[g]? = W.heap[g]?) ∧ (W.setCell ⟨b, 0, none⟩ v').heap.size = W.heap.size := by
  refine ⟨by simp [World.setCell, Array.getElem?_modify, h], fun g hg => by simp [World.setCell, Array.getElem?_modify, Ne.symm hg], by simp [World.setCell]⟩
theorem GI.round {w0 W w2 w5 : World} {E b c0 c1 c2 f t x : Nat} {zs : List Arc} {ss : List Nat} {v v5 : Value} {ob : Obj} (h : GI w0 E b c0 c1 c2 f t zs ss W) (hE : w0.heap.size ≤ E) (hv : W.heap[E]? = some (.cells #[v] 22)) (hb2 : Below W.heap.size W w2) (h5 : OwnArc w0.heap.size w5 v5 ((zs ++ ss.map arcX) ++ [arcX x])) (hg : (w2.alloc ob).grownBy w5 v.ownBlock) (ho : OwnArc w0.heap.size W v (zs ++ ss.map arcX)) :
    RKc W (w5.setCell ⟨E, 0, none⟩ v5) ∧ GI w0 E b c0 c1 c2 f t zs (ss ++ [x]) (w5.setCell ⟨E, 0, none⟩ v5) := by
  obtain ⟨h1, _, h4, hc1, hc2⟩ := h
  have hB := hb2.alloc hb2.size ob
  have hsz : W.heap.size ≤ w2.heap.size := hb2.size
  have old : ∀ g, g < W.heap.size → v.ownBlock ≠ some g → w5.heap[g]? = W.heap[g]? := fun g hlt hne => (hg.block g (by have := hB.size; omega) (fun e => hne e.symm)).trans (hB.block g hlt)
  have kind : ∀ (g : Nat) (o : Obj), W.heap[g]? = some o → (∀ cur, o ≠ Obj.cells cur 24 (0, 0)) → v.ownBlock ≠ some g := fun g o hgo hne e => by
    obtain ⟨_, _, cur, hcur⟩ := ownA_cells ho e
    rw [hgo] at hcur
    injection hcur with hcur
    exact hne cur hcur
  have hE5 : w5.heap[E]? = some (.cells #[v] 22) := (old E (heap_lt hv) (kind E _ hv fun cur e => by injection e with _ e; exact absurd e (by decide))).trans hv
  obtain ⟨s1, s2, s3⟩ := set_boxA w5 E v v5 _ hE5
  have hgs := hg.size
  have hBs := hB.size
  have q2 : Below w0.heap.size W w5 := (hB.mono h1.size).grown hg (by have := h1.size; omega) (fun g e => (ownA_cells ho e).1)
  have hbw : Below w0.heap.size W (w5.setCell ⟨E, 0, none⟩ v5) := q2.setCell (p := ⟨E, 0, none⟩) hE _
  have keep : ∀ (g : Nat) (cs : Array Value) (T : TypeId), W.heap[g]? = some (Obj.cells cs T (0, 0)) → T ≠ 24 → T ≠ 22 → (w5.setCell ⟨E, 0, none⟩ v5).heap[g]? = some (Obj.cells cs T (0, 0)) := fun g cs T hgo hT hT2 => by
    have n1 : g ≠ E := fun e => by
      rw [e, hv] at hgo; injection hgo with hgo; injection hgo with _ hgo; exact hT2 hgo.symm
    exact (s2 g n1).trans ((old g (heap_lt hgo) (kind g _ hgo fun cur e => by injection e with _ e; exact hT e)).trans hgo)
  refine ⟨⟨by omega, fun g o2 hgo hc => ?_⟩, h1.trans hbw, ⟨v5, s1, ?_⟩, keep _ _ _ h4 (by decide) (by decide), keep _ _ _ hc1 (by decide) (by decide), keep _ _ _ hc2 (by decide) (by decide)⟩
  · have n1 : g ≠ E := fun e => by
      rw [e, hv] at hgo; injection hgo with hgo; rw [← hgo] at hc; cases hc
    have n2 : v.ownBlock ≠ some g := kind g _ hgo fun cur e => by rw [e] at hc; cases hc
    exact (s2 g n1).trans ((old g (heap_lt hgo) n2).trans hgo)
  · rw [List.map_append, ← List.append_assoc]
    exact ownA_same h5 fun g hg' => s2 g (fun e => by
      obtain ⟨_, _, cur, hcur⟩ := ownA_cells h5 hg'
      rw [e, hE5] at hcur
      injection hcur with hcur; injection hcur with _ hcur; exact absurd hcur (by decide))
theorem joinA {P : Prop} (J G : World → Prop) (h1 : (∀ u, J u → G u) → P) (h2 : ∀ u, J u → G u) : P := h1 h2
end Go.Proofs.YtimgdkafennohaaDoor.Gr
