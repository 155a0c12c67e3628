/-
  Contract of a digraph's iterator over numbers: each one of a stretch is given, in order. Not a statement of the seat.
-/
import Derived.Test.YtimgdkafennohaaHead13
import Derived.RangeFuncGives
import Derived.RangeFuncNested
import Derived.RangeFuncBound
import Derived.RangeFuncCalls
import Derived.RangeFuncLeaves
import Derived.Shelf.RegionOpen
import Derived.OwnWalkIn
import Derived.TacticsInMore
import Derived.LoopNIn
import Derived.LoopIn
namespace Go.Proofs.Ytimgdkafennohaa.Gr
open Go.ChangeShapes Go.WideShapes Go.ChangeAt Go.RowKit Go.Shelf Base Ro F Dl Ln
/-- The numbers of a stretch. -/
def selX (xs : List Nat) (f t : Nat) : List Nat := (xs.drop (posU xs f)).takeWhile (fun x => decide (x < t))
theorem takeWhile_end {l : List Nat} {t k : Nat} (h : ∀ j, j < k → l.getD j 0 < t) (hk : k = l.length ∨ (k < l.length ∧ t ≤ l.getD k 0)) : l.takeWhile (fun x => decide (x < t)) = l.take k := by
  induction l generalizing k with
  | nil => simp
  | cons a l ih =>
    rcases k with _ | k
    · rcases hk with hk | ⟨_, hk⟩
      · simp at hk
      · simp only [List.getD_cons_zero] at hk
        rw [List.takeWhile_cons, if_neg (by simp; omega)]; rfl
    · have h0 := h 0 (by omega)
      simp only [List.getD_cons_zero] at h0
      rw [List.takeWhile_cons, if_pos (by simp; omega), List.take_succ_cons, ih (k := k) (fun j hj => by simpa using h (j + 1) (by omega)) (by
        rcases hk with hk | ⟨h1, h2⟩
        · left; simpa using hk
        · right; exact ⟨by simpa using h1, by simpa using h2⟩)]
/-- What the iterator reads stays. -/
def BtK (w : World) (c0 c1 c2 b f t : Nat) (V : Value) (W : World) : Prop :=
  (W.cell? ⟨c0, 0, none⟩ = some (.pointer (some ⟨b, 0, none⟩)) ∧ W.cell? ⟨c1, 0, none⟩ = some (.int .u64 (f : Int)) ∧ W.cell? ⟨c2, 0, none⟩ = some (.int .u64 (t : Int))) ∧ b < W.heap.size ∧ W.cell? ⟨b, 0, none⟩ = some V ∧ ∀ (g : Nat) (cs : Array Value) (T : TypeId), w.heap[g]? = some (Obj.cells cs T (0, 0)) → (T = 56 ∨ T = 78) → W.heap[g]? = w.heap[g]?
set_option maxRecDepth 100000 in
set_option maxHeartbeats 8000000 in
theorem between1_any {c0 c1 c2 b B f t : Nat} {xs : List Nat} {V : Value} (w W : World) (hL : LsAt w B V xs) (hg : GoodX xs) (l m : Nat) (J : List Nat → World → Prop)
    (hJ : ∀ pre W W', J pre W → Below W.heap.size W W' → J pre W') (hK : ∀ pre W, J pre W → BtK w c0 c1 c2 b f t V W)
    (hY : ∀ pre x rest W1, selX xs f t = pre ++ x :: rest → J pre W1 → YieldAt Fence.wide m Try.prog l #[.int .u64 ((x : Nat) : Int)] W1 fun e W' => e = .returned (.bool true) ∧ J (pre ++ [x]) W')
    (h0 : J [] W) : Calls Try.prog 62 #[.func (.yield l) #[] #[], .pointer (some ⟨c0, 0, none⟩), .pointer (some ⟨c1, 0, none⟩), .pointer (some ⟨c2, 0, none⟩)] W fun e W' => (∃ v, e = .returned v) ∧ J (selX xs f t) W' := by
  have HK := Lib.hid hK
  have HJ := Lib.hid hJ
  have HY := Lib.hid hY
  have HG := Lib.hid hg
  obtain ⟨⟨k0, k1, k2⟩, kb, kV, kk⟩ := hK _ _ h0
  have HS := Lib.hid (seek_any f W (ls_same hL kk) hg kV kb)
  have H0 := Lib.hid h0
  obtain ⟨vp, vc, hVf⟩ := hL.form
  have HLL := Lib.hid hL
  clear hK hJ hY h0 kV kk kb hL
  unfold SeekP at HS
  rcases List.eq_nil_or_concat xs with hx | ⟨ys, y, hx⟩
  · have hsel : selX xs f t = [] := by rw [hx]; rfl
    have hsk : seekV xs f = (0, 0, false) := by rw [hx]; rfl
    rw [hsk] at HS
    rw [hsel]
    go_enter Try.func62, Try.ntmps62
    go_wp2_with fail
    refine HS.out.mono ?_
    rintro e w1 ⟨rfl, hb⟩
    have HN := Lib.hid (HJ.out _ _ _ H0.out hb)
    clear hb HS
    go_wp2_with fail
    go_loopw [5] (fun s5 wr => s5 = .int .i64 0 ∧ Hid (J [] wr)) (fun _ _ => 0)
    case atStart => exact ⟨rfl, HN⟩
    case round =>
      obtain ⟨rfl, HN2⟩ := hrel
      obtain ⟨⟨j0, j1, j2⟩, jb, jV, _⟩ := HK.out _ _ HN2.out
      rw [if_pos hx] at hVf
      rw [hVf] at jV
      clear jb hVf
      go_wp2
      exact bodyPost_end (v := .tuple #[]) (results_none rfl _ _ _) rfl ⟨⟨_, rfl⟩, HN2.out⟩
  · have hne : xs ≠ [] := by rw [hx]; simp
    have hpl : 0 < xs.length := List.length_pos_iff.2 hne
    have hln := hg.2.1
    by_cases hlast : xs.getD (xs.length - 1) 0 < f
    · have hsel : selX xs f t = [] := by
        unfold selX
        rw [up_last hg.1 hlast, List.drop_length]; rfl
      have hsk : seekV xs f = (1, 0, false) := by unfold seekV; rw [if_neg hne, if_pos hlast]
      rw [hsk] at HS
      rw [hsel]
      clear hlast
      go_enter Try.func62, Try.ntmps62
      go_wp2_with fail
      refine HS.out.mono ?_
      rintro e w1 ⟨rfl, hb⟩
      have HN := Lib.hid (HJ.out _ _ _ H0.out hb)
      clear hb HS
      go_wp2_with fail
      go_loopw [5] (fun s5 wr => s5 = .int .i64 1 ∧ Hid (J [] wr)) (fun _ _ => 0)
      case atStart => exact ⟨rfl, HN⟩
      case round =>
        obtain ⟨rfl, HN2⟩ := hrel
        obtain ⟨⟨j0, j1, j2⟩, jb, jV, _⟩ := HK.out _ _ HN2.out
        rw [if_neg hne] at hVf
        rw [hVf] at jV
        clear jb hVf
        go_wp2
        exact bodyPost_end (v := .tuple #[]) (results_none rfl _ _ _) rfl ⟨⟨_, rfl⟩, HN2.out⟩
    · have hsk : seekV xs f = (0, (posU xs f : Int), decide (posU xs f < xs.length ∧ xs.getD (posU xs f) 0 = f)) := by unfold seekV; rw [if_neg hne, if_neg hlast]
      rw [hsk] at HS
      have hp : posU xs f < xs.length := by
        have h1 := posU_le xs f
        rcases Nat.lt_or_eq_of_le h1 with h2 | h2
        · exact h2
        · exact absurd (posU_lt xs f (xs.length - 1) (by omega)) hlast
      -- what the stretch is, by where it ends
      have HSEL : Hid (∀ k, (∀ j, j < k → xs.getD (posU xs f + j) 0 < t) → (k = xs.length - posU xs f ∨ (k < xs.length - posU xs f ∧ t ≤ xs.getD (posU xs f + k) 0)) → selX xs f t = (xs.drop (posU xs f)).take k) := Lib.hid fun k h1 h2 => by
        have e : ∀ j, (xs.drop (posU xs f)).getD j 0 = xs.getD (posU xs f + j) 0 := fun j => by simp [List.getD_eq_getElem?_getD, List.getElem?_drop]
        unfold selX
        refine takeWhile_end (fun j hj => by rw [e]; exact h1 j hj) ?_
        rw [List.length_drop, e]
        exact h2
      have HPRE : Hid (∀ k, (∀ j, j < k → xs.getD (posU xs f + j) 0 < t) → posU xs f + k < xs.length → xs.getD (posU xs f + k) 0 < t → (∃ rest, selX xs f t = (xs.drop (posU xs f)).take k ++ xs.getD (posU xs f + k) 0 :: rest) ∧ (xs.drop (posU xs f)).take (k + 1) = (xs.drop (posU xs f)).take k ++ [xs.getD (posU xs f + k) 0]) := Lib.hid fun k h1 h2 h3 => by
        have hk : k < (xs.drop (posU xs f)).length := by rw [List.length_drop]; omega
        have e : (xs.drop (posU xs f))[k] = xs.getD (posU xs f + k) 0 := by
          rw [List.getElem_drop, List.getD_eq_getElem?_getD, List.getElem?_eq_getElem h2]; rfl
        have e2 : (xs.drop (posU xs f)).take (k + 1) = (xs.drop (posU xs f)).take k ++ [xs.getD (posU xs f + k) 0] := by
          rw [List.take_succ_eq_append_getElem hk, e]
        refine ⟨?_, e2⟩
        unfold selX
        generalize hL : xs.drop (posU xs f) = L at *
        have hall : ∀ x ∈ L.take (k + 1), decide (x < t) = true := fun x hx => by
          rw [decide_eq_true_eq]
          rw [e2] at hx
          rcases List.mem_append.1 hx with hx | hx
          · obtain ⟨j, hj, rfl⟩ := List.getElem_of_mem hx
            rw [List.length_take] at hj
            have := h1 j (by omega)
            rw [List.getElem_take]
            have e3 : L[j]'(by omega) = xs.getD (posU xs f + j) 0 := by
              subst hL
              rw [List.getElem_drop, List.getD_eq_getElem?_getD, List.getElem?_eq_getElem (by omega)]; rfl
            rw [e3]; exact this
          · rw [List.mem_singleton] at hx; rw [hx]; exact h3
        refine ⟨(L.drop (k + 1)).takeWhile (fun x => decide (x < t)), ?_⟩
        conv => lhs; rw [← List.take_append_drop (k + 1) L]
        rw [List.takeWhile_append_of_pos hall, e2, List.append_assoc]
        rfl
      obtain ⟨res, hres⟩ : ∃ res, res = decide (posU xs f < xs.length ∧ xs.getD (posU xs f) 0 = f) := ⟨_, rfl⟩
      rw [← hres] at HS
      have hX : ∃ G C g cap, xs.length ≤ cap ∧ ∀ pre W, J pre W → W.cell? ⟨b, 0, none⟩ = some (.slice (some ⟨G, 0, none⟩) 1 C) ∧ W.cell? ⟨G, 0, none⟩ = some (.slice (some ⟨g, 0, none⟩) xs.length cap) ∧ ∀ k, k < xs.length → W.cell? ⟨g, k, none⟩ = some (.int .u64 (xs.getD k 0 : Nat)) := by
        rcases HLL.out with ⟨hz, _⟩ | ⟨_, g, cap, h1, h2⟩
        · exact absurd hz hne
        · obtain ⟨G, C, cur, hV, _, hG, _, _, _, hc0⟩ := out_row h1
          obtain ⟨c2, hg2, _⟩ := row_blk h2
          refine ⟨G, C, g, cap, ?_, fun pre W hW => ?_⟩
          · rcases h2.2 with ⟨h4, _⟩ | ⟨g', c', cur', h4, _, _, h5, _⟩
            · cases h4
            · injection h4 with _ _ h4; rw [h4]; exact h5
          · obtain ⟨_, _, jV, jk⟩ := HK.out _ _ hW
            refine ⟨by rw [jV, hV], ?_, fun k hk => ?_⟩
            · simp only [World.cell?, jk _ _ _ hG (.inr rfl), hG]; exact hc0
            · have := num_cell h2 k hk
              simp only [World.cell?, jk _ _ _ hg2 (.inl rfl)]
              exact this
      obtain ⟨G, C, g, cap, hcapN, hX⟩ := hX
      have HX := Lib.hid hX
      clear hX hVf HLL
      obtain ⟨p, hpe⟩ : ∃ p, p = posU xs f := ⟨_, rfl⟩
      rw [← hpe] at HS hp HSEL HPRE
      obtain ⟨N, hN⟩ : ∃ N, N = xs.length := ⟨_, rfl⟩
      have HNL := Lib.hid hN
      rw [← hN] at HX HSEL HPRE hp hln hpl hcapN
      have hpi : (p : Int) < (N : Int) := by omega
      clear hsk hlast hres hpe hne hx hN k2 hg
      go_enter Try.func62, Try.ntmps62
      go_wp2_with fail
      refine HS.out.mono ?_
      rintro e w1 ⟨rfl, hb⟩
      have HN := Lib.hid (HJ.out _ _ _ H0.out hb)
      clear hb HS k0 k1
      go_wp2_with fail
      go_loopw [5, 6] (fun s5 s6 wr => (s5 = .int .i64 0 ∧ s6 = .int .i64 (p : Int) ∧ Hid (J [] wr)) ∨ (s5 = .int .i64 1 ∧ s6 = .int .i64 0 ∧ Hid (J (selX xs f t) wr))) (fun s5 _ _ => (1 - intOf s5).toNat)
      case atStart => exact .inl ⟨rfl, rfl, HN⟩
      case round =>
        rcases hrel with ⟨rfl, rfl, HN2⟩ | ⟨rfl, rfl, HN2⟩
        · obtain ⟨j0, j1, j2⟩ := (HK.out _ _ HN2.out).1
          have x1 := (HX.out _ _ HN2.out).1
          have x2 := (HX.out _ _ HN2.out).2.1
          clear HN
          have hm : (N - p : Nat) = N - p := rfl
          go_wp2_with fail
          obtain ⟨M, hM⟩ : ∃ M, M = N - p := ⟨_, rfl⟩
          rw [← hM]
          have HM : Hid (M = N - p ∧ p < N ∧ N < 500) := Lib.hid ⟨hM, hp, hln⟩
          have hM5 : (M : Int) ≤ 500 := by omega
          clear hM hm hp hpi hln hpl hcapN x1 x2 j0 j1 j2
          go_loopw [36] (fun s36 wi => ∃ k : Nat, s36 = .int .i64 (k : Int) ∧ k ≤ M ∧ Hid ((∀ j, j < k → xs.getD (p + j) 0 < t) ∧ J ((xs.drop p).take k) wi)) (fun s36 _ => M - (intOf s36).toNat)
          case atStart => exact ⟨0, rfl, Nat.zero_le _, Lib.hid ⟨fun j hj => absurd hj (Nat.not_lt_zero _), HN2.out⟩⟩
          case round =>
            clear HN2
            obtain ⟨k, rfl, hk, HI⟩ := hrel
            obtain ⟨j0, j1, j2⟩ := (HK.out _ _ HI.out.2).1
            have x4 := (HX.out _ _ HI.out.2).2.2
            by_cases hlt : k < M
            · have x5 := x4 (p + k) (by have := HM.out; omega)
              have HP := Lib.hid (HPRE.out k HI.out.1 (by have := HM.out; omega))
              have HE := Lib.hid (HSEL.out k HI.out.1)
              clear x4
              obtain ⟨x, hxe⟩ : ∃ x, x = xs.getD (p + k) 0 := ⟨_, rfl⟩
              rw [← hxe] at x5 HP HE
              by_cases hx : x < t
              · have hxt : ¬ ((t : Int) ≤ (x : Int)) := by omega
                obtain ⟨⟨rest, hr⟩, he⟩ := HP.out hx
                have HYk := Lib.hid (HY.out _ _ _ _ hr HI.out.2)
                have HN3 : Hid (∀ W', J ((xs.drop p).take k ++ [x]) W' → (∀ j, j < k + 1 → xs.getD (p + j) 0 < t) ∧ J ((xs.drop p).take (k + 1)) W') := Lib.hid fun W' hW => ⟨fun j hj => by
                  rcases Nat.lt_or_eq_of_le (Nat.le_of_lt_succ hj) with h1 | h1
                  · exact HI.out.1 j h1
                  · rw [h1, ← hxe]; exact hx, by rw [he]; exact hW⟩
                clear hr he HP HE hx hxe
                go_upto_region 6 with fail
                obtain ⟨fn, tmps, assign, body, hy, hR⟩ := HYk.out
                clear HYk HI
                refine wpIn_wide (n := m + 1).1 ?_
                gi_wp2
                refine hR.mono ?_
                rintro e W3 ⟨rfl, hJ3⟩
                have HN4 := Lib.hid (HN3.out W3 hJ3)
                clear hy hR hJ3 HN3
                gi_wp2
                go_wp2_with fail
                go_roundw
                case rel => exact ⟨k + 1, by go_num, hlt, HN4⟩
                case measure => simp [intOf]; omega
              · have hxt : (t : Int) ≤ (x : Int) := by omega
                have HR : Hid (J (selX xs f t) wr) := Lib.hid (by rw [HE.out (.inr ⟨by have := HM.out; omega, by omega⟩)]; exact HI.out.2)
                clear HP HE hx hxe HI
                go_wp2
                first
                  | exact bodyPost_end (v := .tuple #[]) (results_none rfl _ _ _) rfl ⟨⟨_, rfl⟩, HR.out⟩
                  | exact bodyPost_ret (v := .tuple #[]) (results_none rfl _ _ _) rfl ⟨⟨_, rfl⟩, HR.out⟩
            · have HR : Hid (J (selX xs f t) wr) := Lib.hid (by rw [HSEL.out k HI.out.1 (.inl (by have := HM.out; omega))]; exact HI.out.2)
              clear HI x4
              go_wp2_with fail
              go_roundw
              case rel => exact .inr ⟨rfl, rfl, HR⟩
              case measure => simp [intOf]
        · obtain ⟨j0, j1, j2⟩ := (HK.out _ _ HN2.out).1
          have x1 := (HX.out _ _ HN2.out).1
          clear HN
          go_wp2
          exact bodyPost_end (v := .tuple #[]) (results_none rfl _ _ _) rfl ⟨⟨_, rfl⟩, HN2.out⟩
end Go.Proofs.Ytimgdkafennohaa.Gr
