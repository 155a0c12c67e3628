/-
  Walks: contracts of both Masks. Not a statement of the seat.
-/
import Derived.Test.YtjknnbeemcpppaaDoorWk1
namespace Go.Proofs.YtjknnbeemcpppaaDoor.Wk
open Go.ChangeShapes Go.WideShapes Go.ChangeAt Go.RowKit Base Pk F
/-- Whether a kind is met. -/
def kd (l : List E) (c : Int) : Bool := l.any fun x => decide (x.2.2.1 = c)
def bt (b : Bool) (x : Int) : Int := if b then x else 0
def maskL (l : List E) : Int := bt (kd l 1) 2 + bt (kd l 2) 4 + bt (kd l 3) 8
theorem kd_snoc (l : List E) (k : Nat) (hk : k < l.length) (c : Int) : kd (l.take (k + 1)) c = (kd (l.take k) c || decide ((l.getD k zE).2.2.1 = c)) := by
  unfold kd
  rw [List.take_add_one, List.getElem?_eq_getElem hk, List.any_append]
  simp [hk]
theorem kd_perm {a b : List E} (h : ∀ x, x ∈ a ↔ x ∈ b) (c : Int) : kd a c = kd b c := by
  unfold kd
  rw [Bool.eq_iff_iff, List.any_eq_true, List.any_eq_true]
  exact ⟨fun ⟨x, h1, h2⟩ => ⟨x, (h x).1 h1, h2⟩, fun ⟨x, h1, h2⟩ => ⟨x, (h x).2 h1, h2⟩⟩
theorem mask_perm {a b : List E} (h : ∀ x, x ∈ a ↔ x ∈ b) : maskL a = maskL b := by
  unfold maskL
  rw [kd_perm h, kd_perm h, kd_perm h]
theorem mask_snoc (l : List E) (k : Nat) (hk : k < l.length) : maskL (l.take (k + 1)) = bt (kd (l.take k) 1 || decide ((l.getD k zE).2.2.1 = 1)) 2 + bt (kd (l.take k) 2 || decide ((l.getD k zE).2.2.1 = 2)) 4 + bt (kd (l.take k) 3 || decide ((l.getD k zE).2.2.1 = 3)) 8 := by
  unfold maskL
  rw [kd_snoc l k hk, kd_snoc l k hk, kd_snoc l k hk]
theorem or1 (a b c : Bool) : bits .or .i64 (bt a 2 + bt b 4 + bt c 8) 2 = (bt (a || true) 2 + bt (b || false) 4 + bt (c || false) 8) := by
  cases a <;> cases b <;> cases c <;> kernel_rfl
theorem or2 (a b c : Bool) : bits .or .i64 (bt a 2 + bt b 4 + bt c 8) 4 = (bt (a || false) 2 + bt (b || true) 4 + bt (c || false) 8) := by
  cases a <;> cases b <;> cases c <;> kernel_rfl
theorem or3 (a b c : Bool) : bits .or .i64 (bt a 2 + bt b 4 + bt c 8) 8 = (bt (a || false) 2 + bt (b || false) 4 + bt (c || true) 8) := by
  cases a <;> cases b <;> cases c <;> kernel_rfl
theorem shl_at (q r : Int) (h : (q = 1 ∧ r = 2) ∨ (q = 2 ∧ r = 4) ∨ (q = 3 ∧ r = 8)) (w : World) : (Op.shift .shl .i64 1 .i64 q).run Tryd.prog w = .ok (.int .i64 r) w := by
  rcases h with ⟨rfl, rfl⟩ | ⟨rfl, rfl⟩ | ⟨rfl, rfl⟩ <;> kernel_rfl
/-- What a call that tells a number leaves. -/
def NumP (r : Int) (w : World) (e : Ending) (w' : World) : Prop := e = .returned (.int .i64 r) ∧ Below w.heap.size w w'
set_option maxRecDepth 100000 in
set_option maxHeartbeats 4000000 in
theorem mask_any {v : Value} {l : List E} {n : Nat} (w : World) (h : Eds w v l) (hn : l.length = n) (hl : n ≤ 1000) : Calls Tryd.prog 10 #[v] w (NumP (maskL l) w) := by
  obtain ⟨p, c, rfl, hc⟩ := eds_at h hn
  have HC := Lib.hid hc
  have HSN : Hid (∀ k, k < n → ∃ q r, (l.getD k zE).2.2.1 = q ∧ maskL (l.take (k + 1)) = r ∧ ((¬ (1 ≤ q ∧ q < 4) ∧ r = maskL (l.take k)) ∨ (1 ≤ q ∧ q < 4) ∧ ∃ s, (∀ w, (Op.shift .shl .i64 1 .i64 q).run Tryd.prog w = .ok (.int .i64 s) w) ∧ bits .or .i64 (maskL (l.take k)) s = r)) := Lib.hid fun k hk => by
    refine ⟨_, _, rfl, rfl, ?_⟩
    rw [mask_snoc l k (by omega)]
    generalize (l.getD k zE).2.2.1 = q
    by_cases h1 : q = 1
    · subst h1
      exact .inr ⟨⟨by decide, by decide⟩, 2, shl_at _ _ (.inl ⟨rfl, rfl⟩), or1 _ _ _⟩
    · by_cases h2 : q = 2
      · subst h2
        exact .inr ⟨⟨by decide, by decide⟩, 4, shl_at _ _ (.inr (.inl ⟨rfl, rfl⟩)), or2 _ _ _⟩
      · by_cases h3 : q = 3
        · subst h3
          exact .inr ⟨⟨by decide, by decide⟩, 8, shl_at _ _ (.inr (.inr ⟨rfl, rfl⟩)), or3 _ _ _⟩
        · refine .inl ⟨by omega, ?_⟩
          rw [decide_eq_false h1, decide_eq_false h2, decide_eq_false h3, Bool.or_false, Bool.or_false, Bool.or_false]
          rfl
  have HEND : Hid (maskL (l.take n) = maskL l) := Lib.hid (by rw [← hn, List.take_length])
  have H0 : Hid (maskL (l.take 0) = 0) := Lib.hid (by simp [maskL, kd, bt])
  have HIK := Lib.hid (fun q W => isKind_any q W)
  have hni : (n : Int) ≤ 1000 := by omega
  clear h hc hn
  go_enter Tryd.func10, Tryd.ntmps10
  go_wp2_with fail
  go_loopw [3, 8] (fun s3 s8 wr => ∃ (k : Nat) (m : Int), s8 = .int .i64 (k : Int) ∧ s3 = .int .i64 m ∧ k ≤ n ∧ Hid (m = maskL (l.take k) ∧ Below w.heap.size w wr)) (fun _ s8 _ => n - (intOf s8).toNat)
  case atStart => exact ⟨0, 0, rfl, rfl, Nat.zero_le _, Lib.hid ⟨H0.out.symm, Below.refl _ _⟩⟩
  case round =>
    obtain ⟨k, m, rfl, rfl, hk, HI⟩ := hrel
    by_cases hlt : k < n
    · have hii : (k : Int) < (n : Int) := by omega
      obtain ⟨g, o, rfl, hcl⟩ := HC.out k hlt
      obtain ⟨hg, a0, a1, a2, a3⟩ := hcl wr HI.out.2
      obtain ⟨q, r, hq, hr, hst⟩ := HSN.out k hlt
      rw [← HI.out.1] at hst
      have HR := Lib.hid hr
      have HST := Lib.hid hst
      rw [hq] at a2
      have HW : Hid (∀ ob, Below w.heap.size w (wr.alloc ob)) := Lib.hid fun ob => HI.out.2.trans ((alloc_bel wr ob).mono HI.out.2.size)
      clear hcl hq hr hst HI
      by_cases hin : 1 ≤ q ∧ q < 4
      · obtain ⟨s, hs1, hs2⟩ : ∃ s, (∀ w, (Op.shift .shl .i64 1 .i64 q).run Tryd.prog w = .ok (.int .i64 s) w) ∧ bits .or .i64 m s = r := by
          rcases HST.out with ⟨h, _⟩ | ⟨_, h⟩
          · exact absurd hin h
          · exact h
        have HK : Hid (∀ W, Calls Tryd.prog 22 #[.int .i64 q] W fun e w' => e = .returned (.bool true) ∧ W = w') := Lib.hid fun W => by
          have := HIK.out q W
          rwa [decide_eq_true hin] at this
        clear HST hin HIK
        go_wp2_with fail
        refine (HK.out _).mono ?_
        rintro e w2 ⟨rfl, rfl⟩
        go_wp2_with fail
        go_roundw
        case rel => exact ⟨k + 1, r, by go_num, rfl, by omega, Lib.hid ⟨HR.out.symm, HW.out _⟩⟩
        case measure => simp [intOf]; omega
      · have hrm : r = m := by
          rcases HST.out with ⟨_, h⟩ | ⟨h, _⟩
          · exact h
          · exact absurd h hin
        subst hrm
        have HK : Hid (∀ W, Calls Tryd.prog 22 #[.int .i64 q] W fun e w' => e = .returned (.bool false) ∧ W = w') := Lib.hid fun W => by
          have := HIK.out q W
          rwa [decide_eq_false hin] at this
        clear HST hin HIK
        go_wp2_with fail
        refine (HK.out _).mono ?_
        rintro e w2 ⟨rfl, rfl⟩
        go_wp2_with fail
        go_roundw
        case rel => exact ⟨k + 1, r, by go_num, rfl, by omega, Lib.hid ⟨HR.out.symm, HW.out _⟩⟩
        case measure => simp [intOf]; omega
    · have hin : k = n := by omega
      subst hin
      have HB : Hid (NumP (maskL l) w (.returned (.int .i64 m)) wr) := Lib.hid ⟨by rw [HI.out.1, HEND.out], HI.out.2⟩
      have hii : ¬ (k : Int) < (k : Int) := by omega
      clear HI hlt HSN
      go_wp2
      go_ret
      exact HB.out
def pw (k : Nat) : Int := if k = 1 then 2 else if k = 2 then 4 else 8
/-- The kinds below k. -/
def maskK (l : List E) (k : Nat) : Int := bt (kd l 1 && decide (1 < k)) 2 + bt (kd l 2 && decide (2 < k)) 4 + bt (kd l 3 && decide (3 < k)) 8
theorem maskK_one (l : List E) : maskK l 1 = 0 := by simp [maskK, bt]
theorem maskK_end (l : List E) : maskK l 4 = maskL l := by simp [maskK, maskL]
theorem maskK_step (l : List E) (k : Nat) (h1 : 1 ≤ k) (h2 : k < 4) : maskK l (k + 1) = maskK l k + bt (kd l (k : Int)) (pw k) := by
  have : k = 1 ∨ k = 2 ∨ k = 3 := by omega
  unfold maskK
  rcases this with rfl | rfl | rfl
  · simp [pw, bt]
  · simp [pw, bt]
  · simp [pw, bt]
theorem maskK_bd (l : List E) (k : Nat) : 0 ≤ maskK l k ∧ maskK l k ≤ 14 := by
  unfold maskK bt
  split <;> split <;> split <;> omega
theorem pw_bd (k : Nat) : 0 ≤ pw k ∧ pw k ≤ 8 := by unfold pw; split <;> (try split) <;> omega
set_option maxRecDepth 100000 in
set_option maxHeartbeats 4000000 in
theorem rmask_any {v : Value} {l : List E} {n : Nat} (w : World) (h : Eds w v l) (hn : l.length = n) (hl : n ≤ 1000) : Calls Tryd.prog 11 #[v] w (NumP (maskL l) w) := by
  obtain ⟨p, c, rfl, hc⟩ := eds_at h hn
  have HC := Lib.hid hc
  have HSN : Hid (∀ c k, k < n → kd (l.take (k + 1)) c = (kd (l.take k) c || decide ((l.getD k zE).2.2.1 = c))) := Lib.hid fun c k hk => kd_snoc l k (by omega) c
  have HSE : Hid (∀ c, kd (l.take n) c = kd l c) := Lib.hid fun c => by rw [← hn, List.take_length]
  have HS0 : Hid (∀ c, kd (l.take 0) c = false) := Lib.hid fun c => by simp [kd]
  have HK1 : Hid (maskK l 1 = 0) := Lib.hid (maskK_one l)
  have HKE : Hid (maskK l 4 = maskL l) := Lib.hid (maskK_end l)
  have HKS : Hid (∀ k : Nat, 1 ≤ k → k < 4 → maskK l (k + 1) = maskK l k + bt (kd l (k : Int)) (pw k)) := Lib.hid (maskK_step l)
  have HKB : Hid (∀ k : Nat, 0 ≤ maskK l k ∧ maskK l k ≤ 14) := Lib.hid (maskK_bd l)
  have hni : (n : Int) ≤ 1000 := by omega
  clear h hc hn
  generalize maskL l = r at HKE ⊢
  generalize maskK l = mk at HK1 HKE HKS HKB
  go_enter Tryd.func11, Tryd.ntmps11
  go_wp2_with fail
  go_loopw [4, 5] (fun s4 s5 wr => ∃ k : Nat, s5 = .int .i64 (k : Int) ∧ s4 = .int .i64 (mk k) ∧ 1 ≤ k ∧ k ≤ 4 ∧ Hid (Below (w.heap.size + 1) (w.alloc (.cells #[.int .i64 1, .int .i64 2, .int .i64 4, .int .i64 8] 3)) wr)) (fun _ s5 _ => 4 - (intOf s5).toNat)
  case atStart => exact ⟨1, rfl, by rw [HK1.out], Nat.le_refl _, by omega, Lib.hid (Below.refl _ _)⟩
  case round =>
    obtain ⟨k, rfl, rfl, hk1, hk, HI⟩ := hrel
    by_cases hlt : k < 4
    · have hii : (k : Int) ≤ 3 := by omega
      have hii2 : (k : Int) < 4 := by omega
      have HST := Lib.hid (HKS.out k hk1 hlt)
      have HMB := Lib.hid (HKB.out k)
      have HPB := Lib.hid (pw_bd k)
      have HAR : Hid (∀ X, Below (w.heap.size + 1) (w.alloc (.cells #[.int .i64 1, .int .i64 2, .int .i64 4, .int .i64 8] 3)) X → w.heap.size < X.heap.size ∧ X.cell? ⟨w.heap.size, k, none⟩ = some (.int .i64 (pw k))) := Lib.hid fun X hX => by
        refine ⟨Nat.lt_of_lt_of_le (by simp) hX.size, (hX.cell (p := ⟨w.heap.size, k, none⟩) (by simp)).trans ?_⟩
        have : k = 1 ∨ k = 2 ∨ k = 3 := by omega
        rw [show (w.alloc (.cells #[.int .i64 1, .int .i64 2, .int .i64 4, .int .i64 8] 3)).cell? ⟨w.heap.size, k, none⟩ = (#[Value.int .i64 1, .int .i64 2, .int .i64 4, .int .i64 8] : Array Value)[k]? by unfold World.cell?; rw [heap_alloc_at w _ _ rfl]; rfl]
        rcases this with rfl | rfl | rfl <;> rfl
      generalize mk k = m at HST HMB ⊢
      generalize pw k = pv at HST HPB HAR
      go_upto_region 7 with fail
      go_wp2_with fail
      go_loopw [6, 16] (fun s6 s16 wr => ∃ (j : Nat) (b : Bool), s16 = .int .i64 (j : Int) ∧ s6 = .bool b ∧ j ≤ n ∧ Hid (b = kd (l.take j) (k : Int) ∧ Below (w.heap.size + 1) (w.alloc (.cells #[.int .i64 1, .int .i64 2, .int .i64 4, .int .i64 8] 3)) wr)) (fun _ s16 _ => n - (intOf s16).toNat)
      case atStart => exact ⟨0, false, rfl, rfl, Nat.zero_le _, Lib.hid ⟨(HS0.out _).symm, HI.out⟩⟩
      case round =>
        clear HI
        obtain ⟨j, b, rfl, rfl, hj, HI⟩ := hrel
        by_cases hjn : j < n
        · have hjj : (j : Int) < (n : Int) := by omega
          obtain ⟨g, o, rfl, hcl⟩ := HC.out j hjn
          obtain ⟨hg, a0, a1, a2, a3⟩ := hcl wr (by
            have h1 : Below w.heap.size w (w.alloc (.cells #[.int .i64 1, .int .i64 2, .int .i64 4, .int .i64 8] 3)) := alloc_bel w _
            exact h1.trans (HI.out.2.mono (by simp)))
          have HN := Lib.hid (HSN.out (k : Int) j hjn)
          rw [← HI.out.1] at HN
          have HW : Hid (∀ ob, Below (w.heap.size + 1) (w.alloc (.cells #[.int .i64 1, .int .i64 2, .int .i64 4, .int .i64 8] 3)) (wr.alloc ob)) := Lib.hid fun ob => HI.out.2.trans ((alloc_bel wr ob).mono (by have := HI.out.2.size; simp at this; omega))
          generalize l.getD j zE = x at a0 a1 a2 a3 HN
          obtain ⟨x0, x1, q, x3⟩ := x
          dsimp only at a0 a1 a2 a3 HN
          clear hcl HI
          cases b with
          | true =>
            go_wp2_with fail
            go_roundw
            case rel => exact ⟨j + 1, true, by go_num, rfl, by omega, Lib.hid ⟨by rw [HN.out, Bool.true_or], HW.out _⟩⟩
            case measure => simp [intOf]; omega
          | false =>
            by_cases hq : q = (k : Int)
            · have hb : (q == (k : Int)) = true := by rw [beq_iff_eq]; exact hq
              rw [decide_eq_true hq] at HN
              clear hq
              go_wp2_with fail
              go_roundw
              case rel => exact ⟨j + 1, true, by go_num, rfl, by omega, Lib.hid ⟨by rw [HN.out, Bool.or_true], HW.out _⟩⟩
              case measure => simp [intOf]; omega
            · have hb : (q == (k : Int)) = false := by rw [beq_eq_false_iff_ne]; exact hq
              rw [decide_eq_false hq] at HN
              clear hq
              go_wp2_with fail
              go_roundw
              case rel => exact ⟨j + 1, false, by go_num, rfl, by omega, Lib.hid ⟨by rw [HN.out, Bool.or_false], HW.out _⟩⟩
              case measure => simp [intOf]; omega
        · have hjn' : j = n := by omega
          subst hjn'
          rw [← HSE.out, ← HI.out.1] at HST
          have HW := Lib.hid HI.out.2
          obtain ⟨hl1, hc1⟩ := HAR.out wr HW.out
          have hjj : ¬ (j : Int) < (j : Int) := by omega
          clear HI hjn HAR
          cases b with
          | true =>
            have HS2 : Hid (mk (k + 1) = m + pv) := Lib.hid (by rw [HST.out]; rfl)
            have hwm : IntKind.i64.wrap (m + pv) = m + pv := by
              have := HMB.out
              have := HPB.out
              rw [IntKind.wrap_i64]; omega
            go_wp2_with fail
            go_roundw
            case rel => exact ⟨k + 1, by go_num, by rw [HS2.out], by omega, by omega, HW⟩
            case measure => simp [intOf]; omega
          | false =>
            have HS2 : Hid (mk (k + 1) = m) := Lib.hid (by rw [HST.out]; simp [bt])
            go_wp2_with fail
            go_roundw
            case rel => exact ⟨k + 1, by go_num, by simp [HS2.out], by omega, by omega, HW⟩
            case measure => simp [intOf]; omega
    · have hk4 : k = 4 := by omega
      subst hk4
      have HF : Hid (NumP r w (.returned (.int .i64 (mk 4))) wr) := Lib.hid ⟨by rw [HKE.out], by
        have h1 : Below w.heap.size w (w.alloc (.cells #[.int .i64 1, .int .i64 2, .int .i64 4, .int .i64 8] 3)) := alloc_bel w _
        exact h1.trans (HI.out.mono (by simp))⟩
      generalize mk 4 = m at HF ⊢
      clear HI hlt HKS HKB HK1 HKE
      go_wp2
      go_ret
      exact HF.out
end Go.Proofs.YtjknnbeemcpppaaDoor.Wk
