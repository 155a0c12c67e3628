/-
  Contracts of small functions, several texts laid into one. Not a statement of the seat.
-/
import Derived.Test.YtimgdkafennohaaLst
import Derived.Laws.AppendOwnNone
import Derived.Maps.AppendAt
import Derived.Deep.RegionLaw
import Derived.Test.YtimgdkafennohaaHead1
import Derived.Test.YtimgdkafennohaaHead2
namespace Go.Proofs.Ytimgdkafennohaa.Lst
open Go.ChangeShapes Go.WideShapes Go.ChangeAt Go.RowKit Base
theorem map_at (ys : List Int) (k : Nat) (y : Value) (h : (ys.map (Value.int .i64))[k]? = some y) : k < ys.length ∧ y = .int .i64 (ys.getD k 0) := by
  rw [List.getElem?_map] at h
  obtain ⟨x, hx, rfl⟩ := Option.map_eq_some_iff.1 h
  have hk := (List.getElem?_eq_some_iff.1 hx).1
  refine ⟨hk, ?_⟩
  rw [List.getD_eq_getElem?_getD, hx]
  rfl
theorem run_append_ints {B base : Nat} {w : World} {v u : Value} {zs ys : List Int} (ty : TypeId)
    (hB : B ≤ w.heap.size) (hown : OwnI B w v zs) (hys : Ints base w u ys) (hu : ∀ n c, u = .slice none n c → c = 0) (hl : zs.length + ys.length ≤ 1000000) :
    ∃ v' w', (Builtin.append_ #[26, 26] ty #[v, u]).run Try.prog w = .ok v' w' ∧ OwnI B w' v' (zs ++ ys) ∧ w.grownBy w' v.ownBlock ∧ (v'.ownBlock = v.ownBlock ∨ v'.ownBlock = some w.heap.size) := by
  obtain ⟨i0, hi, hz0, hz1, hz2⟩ := info_parts int_info
  rcases hys with ⟨⟨p, c, rfl⟩, rfl⟩ | ⟨g, o', c, rfl, _, _, _, hc⟩
  · cases p with
    | none =>
      obtain rfl := hu _ _ rfl
      exact ⟨v, w, run_append_owned_none (P := Try.prog) (w := w) B 26 ty 3 i0 1 Try.underlying26 hi v zs.length (zs.map (Value.int .i64)) hown, by rw [List.append_nil]; exact hown, World.grownBy.refl _ _, .inl rfl⟩
    | some ad =>
      obtain ⟨v', w', hr, h2, h3, _, h5⟩ := run_append_own_at (P := Try.prog) w B 26 ty 3 i0 (.int .i64 0) 1 8 Try.underlying26 hi hz0 hz1 hz2 rfl (by decide) v zs.length (zs.map (Value.int .i64)) hown ad 0 c [] (by simp) (by simp) (by simp) (by simp only [maxLen]; omega) (by omega) hB
      refine ⟨v', w', hr, ?_, h3, h5⟩
      rw [List.append_nil]
      unfold OwnI
      simpa using h2
  · obtain ⟨v', w', hr, h2, h3, _, h5⟩ := run_append_own_at (P := Try.prog) w B 26 ty 3 i0 (.int .i64 0) 1 8 Try.underlying26 hi hz0 hz1 hz2 rfl (by decide) v zs.length (zs.map (Value.int .i64)) hown ⟨g, o', none⟩ ys.length c (ys.map (Value.int .i64)) (by simp) (by
      intro t y hy
      obtain ⟨hk, rfl⟩ := map_at ys t y hy
      rw [add_plain]
      exact hc t hk) (by
      intro y hy
      obtain ⟨x, _, rfl⟩ := List.mem_map.1 hy
      rfl) (by simp only [maxLen]; omega) (by omega) hB
    refine ⟨v', w', hr, ?_, h3, h5⟩
    unfold OwnI
    rw [List.length_append, List.map_append]
    exact h2
/-- Some are put behind a slice of the call's own. -/
theorem append_ints {ops : Array Oper} {rest : List Oper} {o : Oper} {a : Act} {Q : Exit → Act → World → Prop} (hgd : o.guard = none) (s x : Operand)
    (ho : o.op = .call { callee := .builtin .append, args := #[s, x], argTypes := #[26, 26] }) {B base : Nat} {w : World} {v u : Value} {zs ys : List Int}
    (hB : B ≤ w.heap.size) (hown : OwnI B w v zs) (hs : a.eval s = v) (hys : Ints base w u ys) (hu : ∀ n c, u = .slice none n c → c = 0) (hx : a.eval x = u) (hl : zs.length + ys.length ≤ 1000000)
    (h : ∀ v' w', OwnI B w' v' (zs ++ ys) → w.grownBy w' v.ownBlock → (v'.ownBlock = v.ownBlock ∨ v'.ownBlock = some w.heap.size) → wpList Try.prog ops Q rest (a.put o.dst v') w') :
    wpList Try.prog ops Q (o :: rest) a w := by
  refine wpList_plain hgd fun K hK => ?_
  obtain ⟨v', w', hr, h2, h3, h5⟩ := run_append_ints o.type hB hown hys hu hl
  unfold Oper.wp execOp
  simp only [ho, resolve, invoke, builtin, Sem.run_bind, Sem.run_pure, Result.andThen_ok, List.map_toArray, List.map_cons, List.map_nil, hs, hx, hr]
  exact hK _ _ (h v' w' h2 h3 h5)
/-- The same, as one step of a region that draws its order. -/
theorem step_append_ints {ops : Array Oper} {o : Oper} {a : Act} {w : World} {K : Act → World → Prop} {Q : Exit → Act → World → Prop} {E : Prop} (hgd : o.guard = none) (s x : Operand)
    (ho : o.op = .call { callee := .builtin .append, args := #[s, x], argTypes := #[26, 26] }) {B base : Nat} {v u : Value} {zs ys : List Int}
    (hB : B ≤ w.heap.size) (hown : OwnI B w v zs) (hs : a.eval s = v) (hys : Ints base w u ys) (hu : ∀ n c, u = .slice none n c → c = 0) (hx : a.eval x = u) (hl : zs.length + ys.length ≤ 1000000)
    (hK : ∀ v' w', OwnI B w' v' (zs ++ ys) → w.grownBy w' v.ownBlock → (v'.ownBlock = v.ownBlock ∨ v'.ownBlock = some w.heap.size) → K (a.put o.dst v') w') :
    if Region.wanted o (yielded ops a.tmps) = true then Oper.wp Try.prog o a w K Q else E := by
  rw [if_pos (by simp [Region.wanted, hgd])]
  obtain ⟨v', w', hr, h2, h3, h5⟩ := run_append_ints o.type hB hown hys hu hl
  unfold Oper.wp
  simp [execOp, ho, resolve, invoke, builtin, hs, hx, hr, Result.andThen]
  exact hK v' w' h2 h3 h5
theorem OwnI.lay {B : Nat} {w X : World} {v : Value} {zs : List Int} (h : OwnI B w v zs) (hx : X.heap = w.heap) (o : Obj) : OwnI B (X.alloc o) v zs := by
  have h1 : OwnI B X v zs := by
    unfold OwnI World.ownsRow at *
    rw [hx]
    exact h
  exact World.ownsRow.alloc h1 o
theorem OwnI.below {B : Nat} {w w' : World} {v : Value} {zs : List Int} (h : OwnI B w v zs) (hb : Below w.heap.size w w') : OwnI B w' v zs := by
  refine ⟨h.1, ?_⟩
  rcases h.2 with hn | ⟨g, cap, cur, rfl, hB, hg, rest⟩
  · exact .inl hn
  · exact .inr ⟨g, cap, cur, rfl, hB, (hb.block g (heap_lt hg)).trans hg, rest⟩
theorem ownI_empty {B : Nat} {W : World} {g : Nat} (hB : B ≤ g) (h : W.heap[g]? = some (.cells #[] 3)) : OwnI B W (.slice (some ⟨g, 0, none⟩) 0 0) [] :=
  ⟨rfl, .inr ⟨g, 0, #[], rfl, hB, h, Nat.le_refl _, by simp [maxLen], rfl, rfl⟩⟩
/-- One that is typed out. -/
theorem ownI_one {B : Nat} {W : World} {g : Nat} (x : Int) (hB : B ≤ g) (h : W.heap[g]? = some (.cells #[.int .i64 x] 3)) : OwnI B W (.slice (some ⟨g, 0, none⟩) 1 1) [x] :=
  ⟨rfl, .inr ⟨g, 1, #[.int .i64 x], rfl, hB, h, Nat.le_refl _, by simp [maxLen], rfl, rfl⟩⟩
theorem int_at {X : World} {g : Nat} (x : Int) (h : X.heap[g]? = some (.cells #[.int .i64 x] 3)) : Ints 0 X (.slice (some ⟨g, 0, none⟩) 1 1) [x] := by
  refine .inr ⟨g, 0, 1, rfl, Nat.zero_le _, heap_lt h, by simp, fun k hk => ?_⟩
  have : k = 0 := by simpa using hk
  subst this
  simp only [World.cell?, h]
  simp
theorem int_lit (x : Int) (X : World) : Ints 0 (X.alloc (.cells #[.int .i64 x] 3)) (.slice (some ⟨X.heap.size, 0, none⟩) 1 1) [x] := int_at x (heap_alloc_at _ _ _ rfl)
/-- How a slice of the call's own looks. -/
theorem OwnI.form {B : Nat} {w : World} {v : Value} {zs : List Int} (h : OwnI B w v zs) : (zs = [] ∧ v = .slice none 0 0) ∨ ∃ g cap, v = .slice (some ⟨g, 0, none⟩) zs.length cap ∧ B ≤ g ∧ g < w.heap.size ∧ zs.length ≤ cap := by
  rcases h.2 with ⟨hv, h0⟩ | ⟨g, cap, cur, hv, hB, hg, hc, _⟩
  · exact .inl ⟨List.length_eq_zero_iff.1 h0, hv⟩
  · exact .inr ⟨g, cap, hv, hB, heap_lt hg, hc⟩
theorem OwnI.cap0 {B : Nat} {w : World} {v : Value} {zs : List Int} (h : OwnI B w v zs) : ∀ n c, v = .slice none n c → c = 0 := fun n c e => by
  rcases h.form with ⟨_, hv⟩ | ⟨g, cap, hv, _⟩
  · rw [hv] at e; injection e with _ _ e; exact e.symm
  · rw [hv] at e; cases e
end Go.Proofs.Ytimgdkafennohaa.Lst
namespace Go.Proofs.Ytimgdkafennohaa.Rf
open Go.ChangeShapes Go.WideShapes Go.ChangeAt Go.RowKit Base Lst
open Go.Proofs.Ytimgdkafennohaa.Tx (Aft Aft.refl Aft.lay Aft.trans Aft.one Aft.cell BoolNew)
def OwnNew (xs : List Int) (w : World) (e : Ending) (w' : World) : Prop := ∃ v, e = .returned v ∧ OwnI w.heap.size w' v xs ∧ Aft w w'
/-- Lists of the call's own on their way. -/
def Way (w wr : World) (v : Value) (zs : List Int) : Prop := OwnI w.heap.size wr v zs ∧ Aft w wr
theorem Way.nil {w : World} : Way w w (.slice none 0 0) [] := ⟨OwnI.nil _ _, Aft.refl _⟩
theorem Way.lay {w wr : World} {v : Value} {zs : List Int} (h : Way w wr v zs) (o : Obj) : Way w (wr.alloc o) v zs := ⟨h.1.lay rfl o, h.2.lay o⟩
end Go.Proofs.Ytimgdkafennohaa.Rf
