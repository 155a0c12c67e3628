/-
  Contracts of digraphs: Drop. Not a statement of the seat.
-/
import Derived.Test.YtpgfkggfgkafjaaHead10
import Derived.RegionTactic
import Derived.BigRegion
namespace Go.Proofs.Ytpgfkggfgkafjaa.Gr
open Go.ChangeShapes Go.WideShapes Go.ChangeAt Go.RowKit Base Ro F Dl Ln
set_option maxHeartbeats 8000000 in
set_option maxRecDepth 100000 in
theorem drop_new {w : World} {B b n : Nat} {xs : List Nat} {nbs : Bool → Nat} {Vs : Bool → Nat → Value} {cnt : Bool → Nat → Nat → Nat → Int} (h : GS w B b n xs nbs Vs cnt) (hn : n ≤ 4096) {f t k l : Nat} (hf : f < n) (ht : t < n) (hk1 : 1 ≤ k) (hk : k < 4) (hl2 : l ≤ 1048575) (hx : numN f t k l ∈ xs)
    (hc1 : 0 < cnt true f t k) (hc2 : 0 < cnt false t f k) :
    Calls Try.prog 13 #[.pointer (some ⟨b, 0, none⟩), .agg #[.int .i64 (f : Int), .int .i64 (t : Int), .int .i64 (k : Int), .int .i64 (l : Int)]] w fun e w' => e = .returned (.int .i64 0) ∧ (∃ Vs', GS w' B b n (delX xs (numN f t k l)) nbs Vs' (cntA cnt f t k (-1))) ∧ Fr (AF w B b nbs) w w' := by
  have hws : ∀ o, Below w.heap.size w (w.alloc o) := fun o => (Below.refl _ _).alloc (Nat.le_refl _) o
  have hw0 : WS w (w.alloc (boxA f t k l)) B b n w.heap.size xs nbs cnt f t k l := ⟨⟨Vs, h.below (hws _)⟩, heap_alloc_at _ _ _ rfl, Fr.of_below (hws _)⟩
  have H1 : Hid (Calls Try.prog 28 #[.pointer (some ⟨b, 0, none⟩), .agg #[.int .i64 (f : Int), .int .i64 (t : Int), .int .i64 (k : Int), .int .i64 (l : Int)]] (w.alloc (boxA f t k l)).drew fun e w' => e = .returned (.bool true) ∧ Hid (WS w w' B b n w.heap.size xs nbs cnt f t k l) ∧ Cl w' b w.heap.size n (nbs true) (nbs false) f t k l) := Lib.hid (by
    have := isRight_any (w := (w.alloc (boxA f t k l)).drew) (h.below (below_drewN (hws (boxA f t k l)) 1)).v (f : Int) (t : Int) (k : Int) (l : Int)
    rw [decide_eq_true (show rightA n f t k l by unfold rightA; omega)] at this
    refine this.mono ?_
    rintro e w' ⟨rfl, hb⟩
    have hw := (hw0.below (below_drewN (Below.refl _ _) 1)).below hb
    exact ⟨rfl, Lib.hid hw, hw.cl⟩)
  have H2 : Hid (∀ Y, Calls Try.prog 30 #[.agg #[.int .i64 (f : Int), .int .i64 (t : Int), .int .i64 (k : Int), .int .i64 (l : Int)]] Y fun e w' => e = .returned (.int .u64 (numN f t k l : Nat)) ∧ Below Y.heap.size Y w') := Lib.hid fun Y => by
    rw [numN_int]
    exact number_any f t k l (by omega) (by omega) (by omega) (by omega) (by omega) (by omega) (by omega) (by omega) Y
  have H3 : Hid (∀ Y, WS w Y B b n w.heap.size xs nbs cnt f t k l → Calls Try.prog 32 #[.pointer (some ⟨b, 0, none⟩), .int .u64 (numN f t k l : Nat)] Y fun e w' => e = .returned (.bool true) ∧ Hid (WS w w' B b n w.heap.size (delX xs (numN f t k l)) nbs cnt f t k l) ∧ Cl w' b w.heap.size n (nbs true) (nbs false) f t k l) := Lib.hid fun Y hY => by
    obtain ⟨Vs1, h1⟩ := hY.1
    refine (drop_gs h1 hx).mono ?_
    rintro e w' ⟨rfl, h2, h3⟩
    have hw := hY.step ⟨Vs1, h2⟩ h3
    exact ⟨rfl, Lib.hid hw, hw.cl⟩
  have HC0 : Hid ((w.alloc (boxA f t k l)).cell? ⟨w.heap.size, 0, none⟩ = some (.int .i64 (f : Int)) ∧ (w.alloc (boxA f t k l)).cell? ⟨w.heap.size, 1, none⟩ = some (.int .i64 (t : Int)) ∧ (w.alloc (boxA f t k l)).cell? ⟨w.heap.size, 2, none⟩ = some (.int .i64 (k : Int)) ∧ (w.alloc (boxA f t k l)).cell? ⟨w.heap.size, 3, none⟩ = some (.int .i64 (l : Int))) := Lib.hid hw0.cl.2.2
  generalize numN f t k l = x at *
  have H4 : Hid (∀ Y, WS w Y B b n w.heap.size (delX xs x) nbs cnt f t k l → Calls Try.prog 31 #[.pointer (some ⟨nbs true, f, none⟩), .int .i64 (t : Int), .int .i64 (k : Int), .int .i64 (-1)] Y fun e w' => e = .returned (.tuple #[]) ∧ Hid (WS w w' B b n w.heap.size (delX xs x) nbs (updC cnt true f t k (cnt true f t k + (-1))) f t k l) ∧ Cl w' b w.heap.size n (nbs true) (nbs false) f t k l) := Lib.hid fun Y hY => by
    obtain ⟨Vs1, h1⟩ := hY.1
    refine (chg_gs h1 hn true hf ht hk rfl (.inr ⟨rfl, hc1⟩) (by have := h1.bnd true f t k; omega)).mono ?_
    rintro e w' ⟨rfl, ⟨V', h2⟩, h3⟩
    have hw := hY.step ⟨_, h2⟩ h3
    exact ⟨rfl, Lib.hid hw, hw.cl⟩
  have H5 : Hid (∀ Y, WS w Y B b n w.heap.size (delX xs x) nbs (updC cnt true f t k (cnt true f t k + (-1))) f t k l → Calls Try.prog 31 #[.pointer (some ⟨nbs false, t, none⟩), .int .i64 (f : Int), .int .i64 (k : Int), .int .i64 (-1)] Y fun e w' => e = .returned (.tuple #[]) ∧ Hid (WS w w' B b n w.heap.size (delX xs x) nbs (cntA cnt f t k (-1)) f t k l) ∧ Cl w' b w.heap.size n (nbs true) (nbs false) f t k l) := Lib.hid fun Y hY => by
    obtain ⟨Vs1, h1⟩ := hY.1
    have he : updC cnt true f t k (cnt true f t k + (-1)) false t f k = cnt false t f k := by simp [updC]
    refine (chg_gs h1 hn false ht hf hk (v := cnt false t f k + (-1)) (by rw [he]) (.inr ⟨rfl, by rw [he]; exact hc2⟩) (by have := h1.bnd false t f k; rw [he] at this; omega)).mono ?_
    rintro e w' ⟨rfl, ⟨V', h2⟩, h3⟩
    have hw := hY.step ⟨_, h2⟩ h3
    exact ⟨rfl, Lib.hid hw, hw.cl⟩
  have HE : Hid (∀ Y, WS w Y B b n w.heap.size (delX xs x) nbs (cntA cnt f t k (-1)) f t k l → (∃ Vs', GS Y B b n (delX xs x) nbs Vs' (cntA cnt f t k (-1))) ∧ Fr (AF w B b nbs) w Y) := Lib.hid fun Y hY => ⟨hY.1, hY.2.2⟩
  clear h hws hw0 hx hl2 hc1 hc2 hk1
  generalize nbs true = nb at *
  generalize nbs false = pb at *
  unfold boxA at H1 HC0
  obtain ⟨g0, g1, g2, g3⟩ := HC0.out
  clear HC0
  go_enter Try.func13, Try.ntmps13
  go_wp2_with fail
  refine joinW (fun u => Hid (WS w u B b n w.heap.size (delX xs x) nbs cnt f t k l) ∧ Cl u b w.heap.size n nb pb f t k l) ?G1 (fun HJ => ?f1) ?r1
  case f1 =>
    go_region_with (first
      | (go_at_call 28; ((with_reducible refine (H1.out).mono ?_); rintro e w1 ⟨rfl, HW1, hcl⟩; obtain ⟨b2, b3, j0, j1, j2, j3⟩ := hcl))
      | (go_at_call 30; ((with_reducible refine (H2.out _).mono ?_); rintro e w2 ⟨rfl, h2⟩; have HW2 := Lib.hid (HW1.out.below h2); clear h2))
      | (go_at_call 32; ((with_reducible refine (H3.out _ HW2.out).mono ?_); rintro e w3 ⟨rfl, HW3, hcl3⟩)))
    all_goals exact HJ _ ⟨HW3, hcl3⟩
  case r1 =>
  rintro w3 ⟨HW3, hcl3⟩
  obtain ⟨d2, d3, k0, k1, k2, k3⟩ := hcl3
  have HD3 : Hid (WS w w3.drew B b n w.heap.size (delX xs x) nbs cnt f t k l) := Lib.hid (HW3.out.below (below_drewN (Below.refl _ _) 1))
  clear g0 g1 g2 g3
  go_wp2_with fail
  have hf0 : (0 : Int) ≤ (f : Int) ∧ (f : Int) < (n : Int) := by omega
  have ht0 : (0 : Int) ≤ (t : Int) ∧ (t : Int) < (n : Int) := by omega
  refine joinW (fun u => Hid (WS w u B b n w.heap.size (delX xs x) nbs (updC cnt true f t k (cnt true f t k + (-1))) f t k l) ∧ Cl u b w.heap.size n nb pb f t k l) ?G5 (fun HJ => ?f5) ?r5
  case f5 =>
    go_region_with (go_at_call 31; ((with_reducible refine (H4.out _ HD3.out).mono ?_); rintro e w4 ⟨rfl, HW4, hcl4⟩))
    all_goals exact HJ _ ⟨HW4, hcl4⟩
  case r5 =>
    rintro w4 ⟨HW4, hcl4⟩
    obtain ⟨d2', d3', k0', k1', k2', k3'⟩ := hcl4
    have HD4 : Hid (WS w w4.drew B b n w.heap.size (delX xs x) nbs (updC cnt true f t k (cnt true f t k + (-1))) f t k l) := Lib.hid (HW4.out.below (below_drewN (Below.refl _ _) 1))
    clear d2 d3 k0 k1 k2 k3 HD3 HW3
    go_wp2_with fail
    refine joinW (fun u => Hid (WS w u B b n w.heap.size (delX xs x) nbs (cntA cnt f t k (-1)) f t k l) ∧ Cl u b w.heap.size n nb pb f t k l) ?G6 (fun HJ => ?f6) ?r6
    case f6 =>
      go_region_with (go_at_call 31; ((with_reducible refine (H5.out _ HD4.out).mono ?_); rintro e w5 ⟨rfl, HW5, hcl5⟩))
      all_goals exact HJ _ ⟨HW5, hcl5⟩
    case r6 =>
      rintro w5 ⟨HW5, _⟩
      have HEE := Lib.hid (HE.out _ HW5.out)
      go_wp2
      go_ret
      exact ⟨rfl, HEE.out⟩
end Go.Proofs.Ytpgfkggfgkafjaa.Gr
