/-
  Proved: whatever two lists of numbers are handed in, OrderMoves returns true. No condition.
-/
import Derived.Test.YtphagkpnfbdncaaOrMovesW
namespace Go.Proofs.Ytphagkpnfbdncaa.orderMoves
open Go.ChangeShapes Go.WideShapes Go.ChangeAt Go.RowKit Base
theorem walk0 {v u : Value} (l m : List Int) (w : World) (hv : Or.SL w v l) (hu : Or.SL w u m) (hbl : Or.Bd l) (hbm : Or.Bd m) :
    Calls Try.prog 4 #[v, u] w fun e w' => e = .returned (.bool true) ∧ Below w.heap.size w w' := by
  by_cases h : l.length ≤ 60 ∧ m.length ≤ 60
  · by_cases hg : Om.Rt l ∧ l.Perm m
    · exact Or.moves_yes v u l m w hv hu hbl hbm h.1 h.2 hg.1 hg.2
    · exact Or.moves_no v u l m w hv hu hbl hbm h.1 h.2 hg
  · obtain ⟨p, c, h1, _⟩ := hv.1.2
    obtain ⟨q, d, h2, _⟩ := hu.1.2
    obtain ⟨_, _, _, h3, _⟩ := hv.1.1.open_
    obtain ⟨_, _, _, h4, _⟩ := hu.1.1.open_
    exact Or.moves_far v u p q _ _ c d w h1 h2 (by omega) h3 h4
theorem own : ownKnob Try.prog.godebug = none := by kernel_rfl
theorem laidOut : laidOutB Try.prog = true := by kernel_rfl
set_option maxRecDepth 100000 in
theorem lifted (os : Os) (started : os.Started) (H : Type) (enc : TypeId × Value → H) :
    ReturnsInHanded {} Try.checked os 4 .any (Rows.orderMovesSpec.pre6 enc Try.prog Try.f4 Rows.orderMovesRow.domain false) (Rows.orderMovesSpec.post enc Try.prog Try.f4 false true false false) := by
  refine returnsInHanded_of_change (C := Try.checked) own started (by kernel_rfl) Try.func4
    (ChangeSpec.witness6 (enc := enc) (C := Try.checked) false ⟨#[], #[.slice none 0 0, .slice none 0 0], []⟩ 8 (by kernel_rfl) (by kernel_rfl) (by kernel_rfl) (by kernel_rfl)) ?_
  intro W base args ds gs before hval0 hW hcnd _
  have hval : ∀ (j : Nat) t v, Try.f4.params[j]? = some t → args[j]? = some v → Value.okWide Try.prog W .any base t v := hval0
  have hW' := hW
  obtain ⟨p, q, hA0, hV, rfl, hfz, hnd⟩ := hW
  have hA : DataW.TrodAll enc Try.prog W 0 (fun _ => true) true Try.f4.params.toList args.toList ds p := hA0
  rw [Try.params4] at hA hval
  obtain ⟨v0, vs0, d0, ds0, p0, q0, hargs, rfl, rfl, r0, r0'⟩ := trodAll_cons hA
  obtain ⟨v1, vs1, d1, ds1, p1, q1, rfl, rfl, rfl, r1, r1'⟩ := trodAll_cons r0'
  obtain ⟨rfl, rfl, rfl⟩ := trodAll_nil r1'
  obtain rfl : args = #[v0, v1] := by cases args; simp_all
  obtain ⟨rfl, rfl⟩ := trodVars_none hV
  have hlt : ∀ x ∈ p0 ++ (p1 ++ ([])), x.block < W.heap.size := fun x hx => by simpa using hW'.lt x (by simpa using hx)
  have back0 : ∀ W', Below W.heap.size W W' → DataW.Trod enc Try.prog W' 0 (fun b => decide (b < W.heap.size)) true 22 v0 d0 p0 :=
    fun W' hn => Below.trod laidOut (by kernel_rfl) (of_decide_eq_true (by kernel_rfl)) r0 hn fun x hx => hlt x (by simp [hx])
  have back1 : ∀ W', Below W.heap.size W W' → DataW.Trod enc Try.prog W' 0 (fun b => decide (b < W.heap.size)) true 22 v1 d1 p1 :=
    fun W' hn => Below.trod laidOut (by kernel_rfl) (of_decide_eq_true (by kernel_rfl)) r1 hn fun x hx => hlt x (by simp [hx])
  obtain ⟨l, hl, bl⟩ := Or.open_sl (hval 0 22 v0 rfl rfl) r0
  obtain ⟨m, hm, bm⟩ := Or.open_sl (hval 1 22 v1 rfl rfl) r1
  clear hA0 hval0
  refine (walk0 l m W hl hm bl bm).mono fun e W' ⟨he, hb⟩ => ?_
  subst he
  exact ⟨_, rfl, _, _, _, [], _, [], hW', trodAll_cons_mk (shut_bool Try.underlying4 _) trodAll_mk0, trodAll_cons_mk (back0 W' hb) (trodAll_cons_mk (back1 W' hb) trodAll_mk0), rfl, hb.frame _, fun h => by cases h⟩
theorem over : Rows.orderMovesRow.holds Try.pinned (OpenSpec.ofChange Rows.orderMovesSpec) :=
  OpenClaim.holds_of_wide 4 Try.f4 rfl rfl rfl rfl rfl rfl rfl ⟨rfl, rfl, rfl, rfl, rfl⟩ rfl rfl rfl rfl rfl (by kernel_rfl) Try.func4 (by kernel_rfl)
    (of_decide_eq_true (by kernel_rfl)) (by unfold Func.isWrapper; rw [if_neg (by decide +kernel)]; exact ⟨rfl, rfl⟩)
    (fun os started H enc _ => lifted os started H enc)
theorem proved : Rows.OrderMovesSaid := over
#print axioms proved
end Go.Proofs.Ytphagkpnfbdncaa.orderMoves
