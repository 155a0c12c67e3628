/-
  Contracts of small functions, several texts laid into one. Not a statement of the seat.
-/
import Derived.Test.YtakgepdlninnhaaDoorHead1
import Derived.Laws.CopyRow
import Derived.Lib.AppendZerosOnto
import Derived.Lib.Overlaps
import Derived.Lib.SliceRun
import Derived.Deep.AppendSrc
import Derived.Maps.AppendAt
import Derived.Deep.RegionLaw
namespace Go.Proofs.YtakgepdlninnhaaDoor.Ro
open Go.ChangeShapes Go.WideShapes Go.ChangeAt Go.RowKit Base
variable {P : Program}
/-- What is laid over a part of a list. -/
def over (X : List Value) (o : Nat) (cs : List Value) : List Value := X.take o ++ cs ++ X.drop (o + cs.length)
theorem over_len {X : List Value} {o : Nat} {cs : List Value} (h : o + cs.length ≤ X.length) : (over X o cs).length = X.length := by
  unfold over
  simp only [List.length_append, List.length_take, List.length_drop]
  omega
theorem run_copy_S (w : World) (dT sT ty elem : TypeId) (g o dLen dCap : Nat) (a : Addr) (sLen sCap : Nat) (X : List Value) (t : TypeId) (cs : List Value) (size m : Nat)
    (hu : P.underlying dT = some (.slice elem)) (hs : (P.info? elem).map (·.size) = some size) (hg : w.heap[g]? = some (.cells X.toArray t (0, 0))) (hm : m = Nat.min sLen dLen) (hn : cs.length = m * size)
    (hsrc : ∀ j v, cs[j]? = some v → w.cell? (a.add j) = some v) (hfit : o + cs.length ≤ X.length) (h1 : ∀ v ∈ cs, v.oneCell' = true) :
    (Builtin.copy_ #[dT, sT] ty #[.slice (some ⟨g, o, none⟩) dLen dCap, .slice (some a) sLen sCap]).run P w = .ok (goInt m) (w.setRow g (over X o cs).toArray) := by
  have hl := run_loadCells_list (P := P) w a cs hsrc
  have hst := run_storeCells_at P g o t cs 0 X.toArray w hg (by simpa using hfit) h1
  cases hq : P.info? elem with
  | none => simp [hq] at hs
  | some i =>
    have hi : i.size = size := by simpa [hq] using hs
    rw [hn] at hl
    simp [Builtin.copy_, run_underlying hu, Builtin.lenOf, Builtin.firstCells, sizeOf, typeInfo, hq, hi, ← hm, hl]
    simp only [Nat.add_zero] at hst
    rw [hst]
    rfl
/-- A row of the call's own takes more. -/
theorem run_append_src (w : World) (base : Nat) (t tx ty e e' : TypeId) (i : TypeInfo) (z : Value) (size bytes : Nat) (ht : P.underlying t = some (.slice e)) (htx : P.underlying tx = some (.slice e')) (hi : P.info? e = some i) (hz : i.zero = some z)
    (hsize : i.size = size) (hby : i.bytes = bytes) (hzs : z.cells.size = size) (v : Value) (n : Nat) (xs : List Value) (hown : w.ownsRow base e size v n xs)
    (a : Addr) (m c : Nat) (news : List Value) (hm : 0 < m) (hl : news.length = m * size) (hnews : ∀ j u, news[j]? = some u → w.cell? (a.add j) = some u) (h1 : ∀ u ∈ news, u.oneCell' = true)
    (h63 : n + m ≤ maxLen) (hbytes : (n + m) * bytes ≤ 140737488355328) (hbase : base ≤ w.heap.size) :
    ∃ v' w', (Builtin.append_ #[t, tx] ty #[v, .slice (some a) m c]).run P w = .ok v' w' ∧ w'.ownsRow base e size v' (n + m) (xs ++ news) ∧ w.grownBy w' v.ownBlock ∧ (v'.ownBlock = v.ownBlock ∨ v'.ownBlock = some w.heap.size) := by
  subst hsize
  subst hby
  have hsmall : n + m ≤ 9223372036854775807 := by simp only [maxLen] at h63; omega
  have hlen : (xs ++ news).length = (n + m) * i.size := by rw [List.length_append, hown.1, hl, Nat.add_mul]
  have hS : Src P i.size tx (.slice (some a) m c) m news w := Src.ofSlice w htx a m c news hl hnews h1
  have grown : ∀ (old : Nat), ∀ (row : Option Nat),
      (w.drew.alloc (.cells ((xs ++ news).toArray ++ Builtin.zeroCells z.cells (grownCap w (n + m) old e - (n + m))) e)).ownsRow base e i.size (.slice (some ⟨w.heap.size, 0, none⟩) (n + m) (grownCap w (n + m) old e)) (n + m) (xs ++ news) ∧
      w.grownBy (w.drew.alloc (.cells ((xs ++ news).toArray ++ Builtin.zeroCells z.cells (grownCap w (n + m) old e - (n + m))) e)) row := by
    intro old row
    have hge := grownCap_ge w (n + m) old e
    have hcm : grownCap w (n + m) old e ≤ maxLen := grownCap_le_maxLen w (n + m) old e h63
    refine ⟨⟨hlen, .inr ⟨w.heap.size, _, _, rfl, hbase, heap_alloc_at w.drew _ _ rfl, hge, hcm, ?_, ?_⟩⟩, ⟨rfl, rfl, rfl, by simp, fun k hk _ => (Below.refl _ _ : Below w.drew.heap.size w.drew w.drew).alloc (Nat.le_refl _) _ |>.block k hk⟩⟩
    · simp only [Array.size_append, List.size_toArray, size_zeroCells, hzs, hlen, ← Nat.add_mul]
      congr 1
      omega
    · simp only [Array.toList_append]
      rw [← hlen]
      exact List.take_left
  rcases hown.2 with ⟨rfl, rfl⟩ | ⟨g, cap, cur, rfl, hbg, hg, hnc, hcm, hcs, htake⟩
  · have hx : xs = [] := List.eq_nil_of_length_eq_zero (by simpa using hown.1)
    subst hx
    have hr := run_append_grow_src w t tx ty e i z ht hi hz none 0 0 [] (run_firstCells_none w.drew i.size 0 0 0) _ m news hS (by omega) (by omega) (growslice_fits (by omega) hbytes)
    have hgr := grown 0 (Value.ownBlock (.slice none 0 0))
    exact ⟨_, _, hr, hgr.1, hgr.2, .inr rfl⟩
  · by_cases hroom : n + m ≤ cap
    · have hfit : n * i.size + news.length ≤ cur.size := by rw [hl, hcs, ← Nat.add_mul]; exact Nat.mul_le_mul_right _ hroom
      have hst := run_storeCells_at P g (0 + n * i.size) e news 0 cur w hg (by omega) h1
      have hr : (Builtin.append_ #[t, tx] ty #[.slice (some ⟨g, 0, none⟩) n cap, .slice (some a) m c]).run P w = .ok (.slice (some ⟨g, 0, none⟩) (n + m) cap) (w.setRow g (over cur.toList (n * i.size) news).toArray) := by
        simp only [Nat.add_zero, Nat.zero_add] at hst
        simp [Builtin.append_, run_underlying ht, run_underlying htx, sizeOf, typeInfo, hi, hS.len, hroom, hS.cells, Addr.add_lit, hst, over]
      refine ⟨_, _, hr, ⟨hlen, .inr ⟨g, cap, _, rfl, hbg, setRow_heap w g cur _ e _ hg, hroom, hcm, ?_, ?_⟩⟩, ⟨rfl, rfl, rfl, by simp, fun k _ hk => setRow_other w g k _ (fun e => hk (by simp [Value.ownBlock, e]))⟩, .inl rfl⟩
      · rw [List.size_toArray, over_len (by simpa using hfit), Array.length_toList, hcs]
      · unfold over
        rw [htake, ← hlen]
        exact List.take_left
    · have holds : ∀ j u, xs[j]? = some u → w.cell? ((⟨g, 0, none⟩ : Addr).add j) = some u := hown.cells (g := g) rfl
      have hr := run_append_grow_src w t tx ty e i z ht hi hz (some ⟨g, 0, none⟩) n cap xs (run_firstCells_some w.drew i.size n ⟨g, 0, none⟩ n cap xs hown.1 holds) _ m news hS (by omega) (by omega) (growslice_fits (by omega) hbytes)
      have hgr := grown cap (Value.ownBlock (.slice (some ⟨g, 0, none⟩) n cap))
      exact ⟨_, _, hr, hgr.1, hgr.2, .inr rfl⟩
theorem over_eq {A B C cs : List Value} {o : Nat} (ho : A.length = o) (hb : B.length = cs.length) : over (A ++ B ++ C) o cs = A ++ cs ++ C := by
  unfold over
  have h1 : (A ++ B ++ C).take o = A := by rw [List.append_assoc, ← ho, List.take_left]
  have h2 : (A ++ B ++ C).drop (o + cs.length) = C := by rw [← ho, ← hb, ← List.length_append, List.drop_left]
  rw [h1, h2]
theorem split_at (R : List Value) (k : Nat) : R = R.take k ++ R.drop k := (List.take_append_drop k R).symm
/-- One put in between: into a new row; where there is room. -/
theorem ins_grow {ROW xs y : List Value} {p s q : Nat} (hp : p ≤ xs.length) (hR : ROW.take p = xs.take p) (hy : y.length = s) (hq : xs.length = p + q) (hl : p + s + q ≤ ROW.length) :
    (over (over ROW p y) (p + s) (xs.drop p)).take (p + s + q) = xs.take p ++ y ++ xs.drop p ∧ (over (over ROW p y) (p + s) (xs.drop p)).length = ROW.length := by
  have hd : (xs.drop p).length = q := by rw [List.length_drop]; omega
  have ha : (xs.take p).length = p := by rw [List.length_take]; omega
  have e1 : over ROW p y = xs.take p ++ y ++ (ROW.drop p).drop s := by
    have := over_eq (A := ROW.take p) (B := (ROW.drop p).take s) (C := (ROW.drop p).drop s) (cs := y) (o := p) (by rw [hR]; exact ha) (by rw [List.length_take, List.length_drop]; omega)
    rw [List.append_assoc, List.take_append_drop, List.take_append_drop] at this
    rw [this, hR]
  have hly : (xs.take p ++ y).length = p + s := by rw [List.length_append, ha, hy]
  have e2 : over (over ROW p y) (p + s) (xs.drop p) = xs.take p ++ y ++ xs.drop p ++ ((ROW.drop p).drop s).drop q := by
    rw [e1]
    have := over_eq (A := xs.take p ++ y) (B := ((ROW.drop p).drop s).take q) (C := ((ROW.drop p).drop s).drop q) (cs := xs.drop p) (o := p + s) hly (by rw [hd, List.length_take, List.length_drop, List.length_drop]; omega)
    rw [List.append_assoc, List.take_append_drop] at this
    exact this
  refine ⟨?_, ?_⟩
  · rw [e2, show p + s + q = (xs.take p ++ y ++ xs.drop p).length by rw [List.length_append, hly, hd], List.take_left]
  · rw [over_len (by rw [over_len (by omega), hd]; exact hl), over_len (by omega)]
theorem ins_room {X xs y : List Value} {p s q : Nat} (hp : p ≤ xs.length) (hX : X.take xs.length = xs) (hy : y.length = s) (hq : xs.length = p + q) (hl : p + s + q ≤ X.length) :
    (over (over X (p + s) (xs.drop p)) p y).take (p + s + q) = xs.take p ++ y ++ xs.drop p ∧ (over (over X (p + s) (xs.drop p)) p y).length = X.length := by
  have hd : (xs.drop p).length = q := by rw [List.length_drop]; omega
  have ha : (xs.take p).length = p := by rw [List.length_take]; omega
  have hXp : X.take p = xs.take p := by rw [← hX, List.take_take, Nat.min_eq_left hp]
  have e1 : over X (p + s) (xs.drop p) = X.take (p + s) ++ xs.drop p ++ X.drop (p + s + q) := by unfold over; rw [hd]
  have e3 : X.take (p + s) = xs.take p ++ (X.take (p + s)).drop p := by
    have := split_at (X.take (p + s)) p
    rw [List.take_take, Nat.min_eq_left (by omega), hXp] at this
    exact this
  have e2 : over (over X (p + s) (xs.drop p)) p y = xs.take p ++ y ++ (xs.drop p ++ X.drop (p + s + q)) := by
    rw [e1, e3]
    have := over_eq (A := xs.take p) (B := (X.take (p + s)).drop p) (C := xs.drop p ++ X.drop (p + s + q)) (cs := y) (o := p) ha (by rw [hy, List.length_drop, List.length_take]; omega)
    rw [← this]
    simp only [List.append_assoc]
  refine ⟨?_, ?_⟩
  · rw [e2, ← List.append_assoc, show p + s + q = (xs.take p ++ y ++ xs.drop p).length by rw [List.length_append, List.length_append, ha, hy, hd], List.take_left]
  · rw [over_len (by rw [over_len (by rw [hd]; exact hl), hy]; omega), over_len (by rw [hd]; exact hl)]
/-- Some taken out. -/
theorem del_room {X xs : List Value} {p s q : Nat} (hX : X.take xs.length = xs) (hq : xs.length = p + s + q) (hl : xs.length ≤ X.length) (zs : List Value) (hz : zs.length = s) :
    (over (over X p (xs.drop (p + s))) (p + q) zs).take (p + q) = xs.take p ++ xs.drop (p + s) ∧ (over (over X p (xs.drop (p + s))) (p + q) zs).length = X.length := by
  have hd : (xs.drop (p + s)).length = q := by rw [List.length_drop]; omega
  have ha : (xs.take p).length = p := by rw [List.length_take]; omega
  have hXp : X.take p = xs.take p := by rw [← hX, List.take_take, Nat.min_eq_left (by omega)]
  have e1 : over X p (xs.drop (p + s)) = xs.take p ++ xs.drop (p + s) ++ X.drop (p + q) := by unfold over; rw [hd, hXp]
  have hl1 : (over X p (xs.drop (p + s))).length = X.length := over_len (by rw [hd]; omega)
  refine ⟨?_, by rw [over_len (by rw [hl1, hz]; omega), hl1]⟩
  have e2 : over (over X p (xs.drop (p + s))) (p + q) zs = (over X p (xs.drop (p + s))).take (p + q) ++ (zs ++ (over X p (xs.drop (p + s))).drop (p + q + s)) := by
    conv => lhs; unfold over
    rw [hz, List.append_assoc]
    rfl
  have e3 : (over X p (xs.drop (p + s))).take (p + q) = xs.take p ++ xs.drop (p + s) := by
    rw [e1, show p + q = (xs.take p ++ xs.drop (p + s)).length by rw [List.length_append, ha, hd], List.take_left]
  rw [e2, e3, show p + q = (xs.take p ++ xs.drop (p + s)).length by rw [List.length_append, ha, hd], List.take_left]
section
variable {w : World} {ops : Array Oper} {rest : List Oper} {o : Oper} {a : Act} {Q : Exit → Act → World → Prop}
theorem wp_builtin_run (b : Builtin) (hgd : o.guard = none) (d s : Operand) (t t' : TypeId) (ho : o.op = .call { callee := .builtin b, args := #[d, s], argTypes := #[t, t'] }) {v u v' : Value} {w' : World} (hb : b = .append ∨ b = .copy) (hd : a.eval d = v) (hs : a.eval s = u)
    (hr : (if b = .append then Builtin.append_ #[t, t'] o.type #[v, u] else Builtin.copy_ #[t, t'] o.type #[v, u]).run P w = .ok v' w') (h : wpList P ops Q rest (a.put o.dst v') w') : wpList P ops Q (o :: rest) a w := by
  refine wpList_plain hgd fun K hK => ?_
  unfold Oper.wp execOp
  rcases hb with rfl | rfl
  · simp only [if_true] at hr
    simp only [ho, resolve, invoke, builtin, Sem.run_bind, Sem.run_pure, Result.andThen_ok, List.map_toArray, List.map_cons, List.map_nil, hd, hs, hr]
    exact hK _ _ h
  · simp only [reduceCtorEq, if_false] at hr
    simp only [ho, resolve, invoke, builtin, Sem.run_bind, Sem.run_pure, Result.andThen_ok, List.map_toArray, List.map_cons, List.map_nil, hd, hs, hr]
    exact hK _ _ h
theorem step_builtin_run {K : Act → World → Prop} {E : Prop} (b : Builtin) (hgd : o.guard = none) (d s : Operand) (t t' : TypeId) (ho : o.op = .call { callee := .builtin b, args := #[d, s], argTypes := #[t, t'] }) {v u v' : Value} {w' : World} (hb : b = .append ∨ b = .copy) (hd : a.eval d = v) (hs : a.eval s = u)
    (hr : (if b = .append then Builtin.append_ #[t, t'] o.type #[v, u] else Builtin.copy_ #[t, t'] o.type #[v, u]).run P w = .ok v' w') (h : K (a.put o.dst v') w') : if Region.wanted o (yielded ops a.tmps) = true then Oper.wp P o a w K Q else E := by
  rw [if_pos (by simp [Region.wanted, hgd])]
  unfold Oper.wp
  rcases hb with rfl | rfl
  · simp only [if_true] at hr
    simp [execOp, ho, resolve, invoke, builtin, hd, hs, hr, Result.andThen]
    exact h
  · simp only [reduceCtorEq, if_false] at hr
    simp [execOp, ho, resolve, invoke, builtin, hd, hs, hr, Result.andThen]
    exact h
end
end Go.Proofs.YtakgepdlninnhaaDoor.Ro
namespace Go.Proofs.YtakgepdlninnhaaDoor.Ro
open Go.ChangeShapes Go.WideShapes Go.ChangeAt Go.RowKit Base
variable {P : Program}
theorem run_append_in (w : World) (t tx ty e e' : TypeId) (i : TypeInfo) (size : Nat) (ht : P.underlying t = some (.slice e)) (htx : P.underlying tx = some (.slice e')) (hi : P.info? e = some i) (hsize : i.size = size)
    (g n cap : Nat) (X : List Value) (hg : w.heap[g]? = some (.cells X.toArray e (0, 0))) (a : Addr) (m c : Nat) (news : List Value) (hl : news.length = m * size) (hnews : ∀ j u, news[j]? = some u → w.cell? (a.add j) = some u) (h1 : ∀ u ∈ news, u.oneCell' = true)
    (hroom : n + m ≤ cap) (hfit : n * size + news.length ≤ X.length) :
    (Builtin.append_ #[t, tx] ty #[.slice (some ⟨g, 0, none⟩) n cap, .slice (some a) m c]).run P w = .ok (.slice (some ⟨g, 0, none⟩) (n + m) cap) (w.setRow g (over X (n * size) news).toArray) := by
  subst hsize
  have hS : Src P i.size tx (.slice (some a) m c) m news w := Src.ofSlice w htx a m c news hl hnews h1
  have hst := run_storeCells_at P g (0 + n * i.size) e news 0 X.toArray w hg (by simpa using hfit) h1
  simp only [Nat.add_zero, Nat.zero_add] at hst
  simp [Builtin.append_, run_underlying ht, run_underlying htx, sizeOf, typeInfo, hi, hS.len, hroom, hS.cells, Addr.add_lit, hst, over]
theorem run_clear_in (w : World) (t e ty : TypeId) (z : Value) (size : Nat) (ht : P.underlying t = some (.slice e)) (hv : ∀ w, (zeroValue e).run P w = .ok z w) (hz : z.cells.size = size) (h1 : ∀ u ∈ z.cells.toList, u.oneCell' = true)
    (g o c : Nat) (X : List Value) (hg : w.heap[g]? = some (.cells X.toArray e (0, 0))) (hfit : o + size ≤ X.length) :
    (Builtin.clear_ #[t] ty #[.slice (some ⟨g, o, none⟩) 1 c]).run P w = .ok (.tuple #[]) (w.setRow g (over X o z.cells.toList).toArray) := by
  have hzc : (Builtin.zeroCells z.cells 1).toList = z.cells.toList := by
    apply List.ext_getElem?
    intro k
    simp only [Builtin.zeroCells, Array.getElem?_toList]
    by_cases hk : k < z.cells.size
    · simp [hk, Nat.mod_eq_of_lt hk]
    · simp [hk]
  have hst := run_storeCells_at P g o e z.cells.toList 0 X.toArray w hg (by simpa [hz] using hfit) h1
  simp only [Nat.add_zero] at hst
  simp [Builtin.clear_, run_underlying ht, hv, hzc, hst, over]
section
variable {w : World} {ops : Array Oper} {rest : List Oper} {o : Oper} {a : Act} {Q : Exit → Act → World → Prop}
theorem wp_clear_run (hgd : o.guard = none) (d : Operand) (t : TypeId) (ho : o.op = .call { callee := .builtin .clear, args := #[d], argTypes := #[t] }) {v v' : Value} {w' : World} (hd : a.eval d = v)
    (hr : (Builtin.clear_ #[t] o.type #[v]).run P w = .ok v' w') (h : wpList P ops Q rest (a.put o.dst v') w') : wpList P ops Q (o :: rest) a w := by
  refine wpList_plain hgd fun K hK => ?_
  unfold Oper.wp execOp
  simp only [ho, resolve, invoke, builtin, Sem.run_bind, Sem.run_pure, Result.andThen_ok, List.map_toArray, List.map_cons, List.map_nil, hd, hr]
  exact hK _ _ h
end
end Go.Proofs.YtakgepdlninnhaaDoor.Ro
