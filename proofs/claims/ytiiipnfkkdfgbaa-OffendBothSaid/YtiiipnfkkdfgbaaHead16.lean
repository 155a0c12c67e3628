/-
  Contracts of small functions, several texts laid into one. Not a statement of the seat.
-/
import Derived.Test.YtiiipnfkkdfgbaaHead18
import Derived.Test.YtiiipnfkkdfgbaaHead10
import Derived.Test.YtiiipnfkkdfgbaaHead12
import Derived.Test.YtiiipnfkkdfgbaaTx5
import Derived.Test.YtiiipnfkkdfgbaaOp1
namespace Go.Proofs.Ytiiipnfkkdfgbaa.Off
open Go.ChangeShapes Go.WideShapes Go.ChangeAt Go.RowKit Base F Tx Hi
abbrev MA (W : World) (b n : Nat) (f : Int × Int → Int) : Prop := Mp.MI Try.prog 98 3 gH W b n f
abbrev MD (W : World) (b n : Nat) (f : Int → Bool) : Prop := Mp.MB Try.prog 3 4 (Value.int .i64) W b n f
/-- What 'm[k]++' does to a map of counts, in its two steps; what is looked up ahead of each. -/
def BumpA (W : World) (b n : Nat) (_F0 F1 : Int × Int → Int) (t k m : Int) : Prop :=
  (Instr.lookup 96 (.map (some b)) (.agg #[.int .i64 t, .int .i64 k]) false).run Try.prog W = .ok (.int .i64 m) W ∧
  ∃ st w1, (Instr.mapEntry 96 (.map (some b)) (.agg #[.int .i64 t, .int .i64 k])).run Try.prog W = .ok (.tuple #[.int .i64 m, goInt st]) w1 ∧ W.grownBy w1 (some b) ∧
    (Instr.lookup 96 (.map (some b)) (.agg #[.int .i64 t, .int .i64 k]) false).run Try.prog w1 = .ok (.int .i64 m) w1 ∧
    ∃ w3, (Instr.entryStore 96 (.map (some b)) (goInt st) (.int .i64 (m + 1))).run Try.prog w1 = .ok () w3 ∧ MA w3 b (n + 1) F1 ∧ w1.grownBy w3 (some b)
theorem ma_look {W : World} {b n : Nat} {F0 : Int × Int → Int} (h : MA W b n F0) {t k m : Int} (ht : -9223372036854775808 ≤ t ∧ t ≤ 9223372036854775807) (hk : -9223372036854775808 ≤ k ∧ k ≤ 9223372036854775807) (h0 : F0 (t, k) = m) :
    (Instr.lookup 96 (.map (some b)) (.agg #[.int .i64 t, .int .i64 k]) false).run Try.prog W = .ok (.int .i64 m) W := by
  obtain ⟨kl, hkl⟩ := Mp.key_a t k ht hk
  have := h.look (t := 96) Mp.keyedA Try.underlying96 Try.underlying3 (zeroIn _) (t, k) hkl
  rw [h0] at this
  exact this
theorem ma_bump {W : World} {b n : Nat} {F0 F1 : Int × Int → Int} (h : MA W b n F0) (hn : n < maxLen) {t k m : Int} (ht : -9223372036854775808 ≤ t ∧ t ≤ 9223372036854775807) (hk : -9223372036854775808 ≤ k ∧ k ≤ 9223372036854775807) (hm : 0 ≤ m ∧ m < 9223372036854775807)
    (h0 : F0 (t, k) = m) (h1 : F1 (t, k) = m + 1) (h2 : ∀ q, q ≠ (t, k) → F1 q = F0 q) : BumpA W b n F0 F1 t k m := by
  refine ⟨ma_look h ht hk h0, ?_⟩
  obtain ⟨kl, hkl⟩ := Mp.key_a t k ht hk
  obtain ⟨st, w1, r1, r2, r3, r4⟩ := h.entry (t := 96) Mp.keyedA Try.underlying96 Try.underlying3 zeroIn hn (t, k) hkl (fun y e => by rw [gH_inj e]) (by rw [h0]; exact WalkArith.wf_i64 ⟨by omega, by omega⟩)
  rw [h0] at r1
  obtain ⟨w3, q1, q2, q3⟩ := r4 w1 (m + 1) F1 rfl (WalkArith.wf_i64 ⟨by omega, by omega⟩) (fun y e => by rw [gH_inj e, h1]) (fun y e => h2 y fun e2 => e (by rw [e2]))
  exact ⟨st, w1, r1, r3, ma_look r2 ht hk h0, w3, q1, q2, q3⟩
def boxWr (bd bw : Nat) : Obj := .cells #[.map (some bd), .map (some bw)] 108
theorem cellsWr {w : World} {g bd bw : Nat} (h : w.heap[g]? = some (boxWr bd bw)) : w.cell? ⟨g, 0, none⟩ = some (.map (some bd)) ∧ w.cell? ⟨g, 1, none⟩ = some (.map (some bw)) := by
  unfold boxWr at h
  simp [World.cell?, h]
set_option maxRecDepth 100000 in
theorem wpList_store_wr {ops : Array Oper} {rest : List Oper} {o : Oper} {a : Act} {w : World} {Q : Exit → Act → World → Prop} (hgd : o.guard = none) (x y : Operand) (ho : o.op = .store 108 x y)
    (g : Nat) (bd bw : Nat) (c0 : Array Value) (hx : a.eval x = .pointer (some ⟨g, 0, none⟩)) (hy : a.eval y = .agg #[.map (some bd), .map (some bw)]) (hg : w.heap[g]? = some (.cells c0 108)) (h3 : c0.size = 2)
    (h : ∀ w', Stored w g (boxWr bd bw) w' → wpList Try.prog ops Q rest (a.put o.dst undef) w') : wpList Try.prog ops Q (o :: rest) a w :=
  wpList_store_row hgd _ x y ho g _ hx hy 108 _ hg (by kernel_rfl) (by rw [h3]; rfl) (by simp [Value.oneCell']) (h _ (stored_setRow _ _ _ _ _ hg))
theorem done_take {xs : List Txn} (hp : xs.Pairwise (fun a b => a.id < b.id)) {k : Nat} (hk : k < xs.length) (id : Int) : doneF (xs.take (k + 1)) id = if id = (xs.getD k Txn.zero).id then (xs.getD k Txn.zero).dn else doneF (xs.take k) id := by
  have h1 : ∀ x ∈ xs.take k, x.id < (xs.getD k Txn.zero).id := fun x hx => by
    obtain ⟨j, hj, e⟩ := List.getElem_of_mem hx
    rw [List.length_take] at hj
    have := pw_at Txn.zero Txn.id hp (j := j) (k := k) (by omega) hk
    rw [List.getElem_take] at e
    rw [List.getD_eq_getElem?_getD, List.getElem?_eq_getElem (show j < xs.length by omega)] at this
    rw [← e]
    exact this
  rw [take_snoc xs Txn.zero k hk]
  generalize xs.getD k Txn.zero = t at h1
  generalize xs.take k = l at h1
  induction l with
  | nil =>
    by_cases e : id = t.id
    · rw [if_pos e]; simp [doneF, findT, e]
    · rw [if_neg e]
      show (match findT [t] id with | some t => t.dn | none => false) = (match findT [] id with | some t => t.dn | none => false)
      have e3 : findT [t] id = none := by
        rw [findT, if_neg (fun e2 : t.id = id => e e2.symm)]
        rfl
      rw [e3]
      rfl
  | cons x l ih =>
    have h2 := h1 x List.mem_cons_self
    have ih := ih fun y hy => h1 y (List.mem_cons_of_mem _ hy)
    unfold doneF at ih ⊢
    rw [List.cons_append]
    simp only [findT]
    by_cases e : x.id = id
    · rw [if_pos e, if_pos e, if_neg (by omega)]
    · rw [if_neg e, if_neg e]
      exact ih
/-- What writtenOf leaves. -/
def WtP (xs : List Txn) (w : World) (e : Ending) (w' : World) : Prop := ∃ bd bw n1 n2, e = .returned (.agg #[.map (some bd), .map (some bw)]) ∧ MD w' bd n1 (doneF xs) ∧ MA w' bw n2 (fun q => ((cntW xs q.1 q.2 : Nat) : Int)) ∧ Aft w w'
/-- On the way. -/
def WN (w wr : World) (xs : List Txn) (k : Nat) : Prop := ∃ n1 n2, n1 ≤ k ∧ n2 ≤ 100000 * k ∧ MD wr (w.heap.size + 2) n1 (doneF (xs.take k)) ∧ MA wr (w.heap.size + 3) n2 (fun q => ((cntW (xs.take k) q.1 q.2 : Nat) : Int)) ∧ Aft w wr ∧ wr.heap[w.heap.size + 4]? = some (boxWr (w.heap.size + 2) (w.heap.size + 3)) ∧ wr.heap[w.heap.size + 1]? = some (.cells #[.map none, .map none] 108)
/-- Among one's operations. -/
def WJ (w wA wr : World) (_xs : List Txn) (k j : Nat) (_ti : Int) (F : Int × Int → Int) (d : Int → Bool) (bx : Obj) : Prop := ∃ n1 n2, n1 ≤ k + 1 ∧ n2 ≤ 100000 * k + j ∧ MD wr (w.heap.size + 2) n1 d ∧ MA wr (w.heap.size + 3) n2 F ∧ Aft w wr ∧ wr.heap[w.heap.size + 4]? = some (boxWr (w.heap.size + 2) (w.heap.size + 3)) ∧ wr.heap[w.heap.size + 1]? = some (.cells #[.map none, .map none] 108) ∧ wr.heap[wA.heap.size]? = some bx
theorem WJ.lay {w wA wr : World} {xs : List Txn} {k j : Nat} {ti : Int} {F : Int × Int → Int} {d : Int → Bool} {bx : Obj} (h : WJ w wA wr xs k j ti F d bx) (o : Obj) : WJ w wA (wr.alloc o) xs k j ti F d bx := by
  obtain ⟨n1, n2, h1, h2, h3, h4, h5, h6, h7, h8⟩ := h
  exact ⟨n1, n2, h1, h2, h3.lay rfl o, h4.lay rfl o, h5.lay o, heap_alloc_lt _ _ _ _ h6, heap_alloc_lt _ _ _ _ h7, heap_alloc_lt _ _ _ _ h8⟩
theorem WJ.drew {w wA wr : World} {xs : List Txn} {k j : Nat} {ti : Int} {F : Int × Int → Int} {d : Int → Bool} {bx : Obj} (h : WJ w wA wr xs k j ti F d bx) : WJ w wA wr.drew xs k j ti F d bx := by
  obtain ⟨n1, n2, h1, h2, h3, h4, h5, h6, h7, h8⟩ := h
  exact ⟨n1, n2, h1, h2, h3.heap rfl, h4.heap rfl, h5.drew 1, h6, h7, h8⟩
/-- The map of counts turns. -/
theorem WJ.turn {w wA wr w1 : World} {xs : List Txn} {k j j' n : Nat} {ti : Int} {F F' : Int × Int → Int} {d : Int → Bool} {bx : Obj} (h : WJ w wA wr xs k j ti F d bx) (hA : w.heap.size + 4 < wA.heap.size) (hg : wr.grownBy w1 (some (w.heap.size + 3))) (hm : MA w1 (w.heap.size + 3) n F') (hn : n ≤ 100000 * k + j') : WJ w wA w1 xs k j' ti F' d bx := by
  obtain ⟨n1, n2, h1, h2, h3, h4, h5, h6, h7, h8⟩ := h
  have key : ∀ (g : Nat) (ob : Obj), wr.heap[g]? = some ob → g ≠ w.heap.size + 3 → w1.heap[g]? = some ob := fun g ob ho hne => (hg.block _ (heap_lt ho) (fun e => by injection e with e; exact hne e)).trans ho
  refine ⟨n1, n, h1, hn, h3.kept hg (fun e => by injection e with e; omega), hm, Below.grown h5 hg h5.size (fun q hq => by injection hq with hq; omega), key _ _ h6 (by omega), key _ _ h7 (by omega), key _ _ h8 (by omega)⟩
end Go.Proofs.Ytiiipnfkkdfgbaa.Off
namespace Go.Proofs.Ytiiipnfkkdfgbaa.Off
open Go.ChangeShapes Go.WideShapes Go.ChangeAt Go.RowKit Base F Tx Hi Go.Sort
def verV (v : Ver) : Value := .agg #[.int .i64 v.t, .int .i64 v.k, .int .i64 v.n]
def oprV (x : Opr) : Value := .agg #[.bool x.rd, .int .i64 x.k, .int .i64 x.t, .int .i64 x.n]
theorem of_any (x : Opr) (w : World) : Calls Try.prog 63 #[oprV x] w fun e w' => e = .returned (verV (verO x)) ∧ Aft w w' := by
  obtain ⟨rd, k, t, n⟩ := x
  cases rd with
  | true => exact Op.of_r k t n w
  | false => exact Op.of_w k t n w
set_option maxRecDepth 100000 in
set_option maxHeartbeats 2000000 in
theorem isOther_any (v : Ver) (id : Int) (w : World) : Calls Try.prog 64 #[verV v, .int .i64 id] w (BoolNew (othB v id) w) := by
  obtain ⟨t, k, n⟩ := v
  unfold verV othB
  simp only
  by_cases h0 : t = 0
  · subst h0
    go_enter Try.func64, Try.ntmps64
    go_wp2
    go_ret
    exact ⟨by simp, Aft.one _⟩
  · have e0 : (t != 0) = true := by rw [bne_iff_ne]; exact h0
    have HT : Hid ((decide (t ≠ 0) && decide (t ≠ id)) = decide (t ≠ id)) := Lib.hid (by rw [decide_eq_true h0, Bool.true_and])
    rw [HT.out]
    by_cases h1 : t = id
    · have e1 : (t != id) = false := by rw [bne_eq_false_iff_eq]; exact h1
      rw [decide_eq_false (fun e => e h1)]
      clear h1 h0
      go_enter Try.func64, Try.ntmps64
      go_wp2
      go_ret
      exact ⟨rfl, Aft.one _⟩
    · have e1 : (t != id) = true := by rw [bne_iff_ne]; exact h1
      rw [decide_eq_true h1]
      clear h1 h0
      go_enter Try.func64, Try.ntmps64
      go_wp2
      go_ret
      exact ⟨rfl, Aft.one _⟩
def offQ (d : Int → Bool) (f : Int × Int → Int) (v : Ver) (ph : Int) : Bool := if ph = 2 then !(d v.t) else if ph = 3 then decide (v.n < f (v.t, v.k)) else false
set_option maxRecDepth 100000 in
set_option maxHeartbeats 4000000 in
theorem offends_any {X : World} {bd bw n1 n2 : Nat} {d : Int → Bool} {f : Int × Int → Int} (hd : MD X bd n1 d) (hf : MA X bw n2 f) (v : Ver) (ph : Int) (ht : -9223372036854775808 ≤ v.t ∧ v.t ≤ 9223372036854775807) (hk : -9223372036854775808 ≤ v.k ∧ v.k ≤ 9223372036854775807) :
    Calls Try.prog 65 #[.agg #[.map (some bd), .map (some bw)], verV v, .int .i64 ph] X (BoolNew (offQ d f v ph) X) := by
  obtain ⟨t, k, n⟩ := v
  simp only at ht hk
  unfold offQ verV
  simp only
  obtain ⟨W, hW⟩ : ∃ W, W = (X.alloc (boxWr bd bw)).alloc (.cells #[.int .i64 t, .int .i64 k, .int .i64 n] 53) := ⟨_, rfl⟩
  have HA : Hid (Aft X W) := Lib.hid (by rw [hW]; exact (Aft.one _).lay _)
  have HB : Hid (W.heap[X.heap.size]? = some (boxWr bd bw) ∧ W.heap[X.heap.size + 1]? = some (.cells #[.int .i64 t, .int .i64 k, .int .i64 n] 53)) := Lib.hid ⟨by rw [hW]; exact heap_alloc_lt _ _ _ _ (heap_alloc_at _ _ _ rfl), by rw [hW]; exact heap_alloc_at _ _ _ (by simp)⟩
  have hl1 : (Instr.lookup 106 (.map (some bd)) (.int .i64 t) false).run Try.prog W = .ok (.bool (d t)) W := (hd.below HA.out).look keyedI Try.underlying106 Try.underlying4 (zeroB _) t (Mp.key_int Try.underlying3 ht)
  obtain ⟨m, hm⟩ : ∃ m, m = f (t, k) := ⟨_, rfl⟩
  have hl2 := ma_look (hf.below (HA.out.drew 1)) ht hk hm.symm
  rw [← hm]
  generalize d t = dt at hl1 ⊢
  clear hd hf hm
  by_cases h2 : ph = 2
  · subst h2
    rw [if_pos rfl]
    clear hl2
    unfold boxWr at hW
    have hx2 := HB.out.2
    have hx1 := HB.out.1
    rw [hW] at hl1
    clear hx1 hx2
    go_enter Try.func65, Try.ntmps65
    go_wp2
    go_ret
    exact ⟨rfl, by rw [← hW]; exact HA.out⟩
  · rw [if_neg h2]
    have e2 : (ph == 2) = false := by rw [beq_eq_false_iff_ne]; exact h2
    clear hl1
    by_cases h3 : ph = 3
    · subst h3
      rw [if_pos rfl]
      clear h2
      go_enter Try.func65, Try.ntmps65
      go_upto_region 6 with fail
      unfold boxWr at hW
      rw [← hW]
      clear hW
      obtain ⟨q0, q1⟩ := cellsWr (show W.drew.heap[X.heap.size]? = some (boxWr bd bw) from HB.out.1)
      obtain ⟨c0, c1, c2⟩ : W.drew.cell? ⟨X.heap.size + 1, 0, none⟩ = some (.int .i64 t) ∧ W.drew.cell? ⟨X.heap.size + 1, 1, none⟩ = some (.int .i64 k) ∧ W.drew.cell? ⟨X.heap.size + 1, 2, none⟩ = some (.int .i64 n) := by
        have : W.drew.heap[X.heap.size + 1]? = some (.cells #[.int .i64 t, .int .i64 k, .int .i64 n] 53) := HB.out.2
        simp [World.cell?, this]
      have hl3 : (Instr.lookup 96 (.map (some bw)) (.agg #[.int .i64 t, .int .i64 k]) false).run Try.prog W.drew = .ok (.int .i64 m) W.drew := hl2
      clear hl2
      refine wp_region_held_drew (S := fun Y => Y.cell? ⟨X.heap.size, 1, none⟩ = some (.map (some bw)) ∧ Y.cell? ⟨X.heap.size + 1, 0, none⟩ = some (.int .i64 t) ∧ Y.cell? ⟨X.heap.size + 1, 1, none⟩ = some (.int .i64 k) ∧ Y.cell? ⟨X.heap.size + 1, 2, none⟩ = some (.int .i64 n) ∧ (Instr.lookup 96 (.map (some bw)) (.agg #[.int .i64 t, .int .i64 k]) false).run Try.prog Y = .ok (.int .i64 m) Y) (by kernel_rfl) ⟨q1, c0, c1, c2, hl3⟩ (fun hHeld0 => ?_)
      clear q0 q1 c0 c1 c2 hl3
      refine wpAnyH_take (i := 0) (v := ?_) rfl (by kernel_rfl) (by kernel_rfl) (by kernel_rfl) (fun _ _ _ h => h) (Or.inl ⟨by rfl, ?yo0⟩) (by assumption) ?qo0
      case yo0 => (intro wz hSw; (try dsimp only at hSw); go_simp <;> with_reducible rfl)
      try simp only [Act.put, List.getElem_toArray, List.getElem_cons_zero, List.setIfInBounds_toArray, List.set_cons_zero, List.set_cons_succ]
      refine wpAnyH_take (i := 1) (v := ?_) rfl (by kernel_rfl) (by kernel_rfl) (by kernel_rfl) (fun _ _ _ h => h) (Or.inl ⟨by rfl, ?yo1⟩) (by assumption) ?qo1
      case yo1 => (intro wz hSw; (try dsimp only at hSw); go_simp <;> with_reducible rfl)
      try simp only [Act.put, List.getElem_toArray, List.getElem_cons_zero, List.getElem_cons_succ, List.setIfInBounds_toArray, List.set_cons_zero, List.set_cons_succ]
      refine wpAnyH_take (i := 2) (v := ?_) rfl (by kernel_rfl) (by kernel_rfl) (by kernel_rfl) (fun _ _ _ h => h) (Or.inl ⟨by rfl, ?yo2⟩) (by assumption) ?qo2
      case yo2 => (intro wz hSw; (try dsimp only at hSw); go_simp <;> with_reducible rfl)
      try simp only [Act.put, List.getElem_toArray, List.getElem_cons_zero, List.getElem_cons_succ, List.setIfInBounds_toArray, List.set_cons_zero, List.set_cons_succ]
      refine wpAnyH_take (i := 3) (v := ?_) rfl (by kernel_rfl) (by kernel_rfl) (by kernel_rfl) (fun _ _ _ h => h) (Or.inl ⟨by rfl, ?yo3⟩) (by assumption) ?qo3
      case yo3 => (intro wz hSw; (try dsimp only at hSw); go_simp <;> with_reducible rfl)
      try simp only [Act.put, List.getElem_toArray, List.getElem_cons_zero, List.getElem_cons_succ, List.setIfInBounds_toArray, List.set_cons_zero, List.set_cons_succ]
      refine wpAnyH_take (i := 4) (v := ?_) rfl (by kernel_rfl) (by kernel_rfl) (by kernel_rfl) (fun _ _ _ h => h) (Or.inl ⟨by rfl, ?yo4⟩) (by assumption) ?qo4
      case yo4 => (intro wz hSw; (try dsimp only at hSw); go_simp <;> with_reducible rfl)
      try simp only [Act.put, List.getElem_toArray, List.getElem_cons_zero, List.getElem_cons_succ, List.setIfInBounds_toArray, List.set_cons_zero, List.set_cons_succ]
      refine wpAnyH_take (i := 5) (v := ?_) rfl (by kernel_rfl) (by kernel_rfl) (by kernel_rfl) (fun _ _ _ h => h) (Or.inl ⟨by rfl, ?yo5⟩) (by assumption) ?qo5
      case yo5 => (intro wz hSw; (try dsimp only at hSw); go_simp <;> with_reducible rfl)
      try simp only [Act.put, List.getElem_toArray, List.getElem_cons_zero, List.getElem_cons_succ, List.setIfInBounds_toArray, List.set_cons_zero, List.set_cons_succ]
      refine wpAnyH_take (i := 6) (v := ?_) rfl (by kernel_rfl) (by kernel_rfl) (by kernel_rfl) (fun _ _ _ h => h) (Or.inl ⟨by rfl, ?yo6⟩) (by assumption) ?qo6
      case yo6 => (intro wz hSw; (try dsimp only at hSw); go_simp <;> with_reducible rfl)
      try simp only [Act.put, List.getElem_toArray, List.getElem_cons_zero, List.getElem_cons_succ, List.setIfInBounds_toArray, List.set_cons_zero, List.set_cons_succ]
      refine wpAnyH_take (i := 7) (v := ?_) rfl (by kernel_rfl) (by kernel_rfl) (by kernel_rfl) (fun _ _ _ h => h) (Or.inl ⟨by rfl, ?yo7⟩) (by assumption) ?qo7
      case yo7 => (intro wz hSw; (try dsimp only at hSw); go_simp <;> with_reducible rfl)
      try simp only [Act.put, List.getElem_toArray, List.getElem_cons_zero, List.getElem_cons_succ, List.setIfInBounds_toArray, List.set_cons_zero, List.set_cons_succ]
      refine wpAnyH_take (i := 8) (v := ?_) rfl (by kernel_rfl) (by kernel_rfl) (by kernel_rfl) (fun _ _ _ h => h) (Or.inl ⟨by rfl, ?yo8⟩) (by assumption) ?qo8
      case yo8 => (intro wz hSw; (try dsimp only at hSw); go_simp <;> with_reducible rfl)
      try simp only [Act.put, List.getElem_toArray, List.getElem_cons_zero, List.getElem_cons_succ, List.setIfInBounds_toArray, List.set_cons_zero, List.set_cons_succ]
      refine wpAnyH_take (i := 9) (v := ?_) rfl (by kernel_rfl) (by kernel_rfl) (by kernel_rfl) (fun _ _ _ h => h) (Or.inl ⟨by rfl, ?yo9⟩) (by assumption) ?qo9
      case yo9 => (intro wz hSw; (try dsimp only at hSw); go_simp <;> with_reducible rfl)
      try simp only [Act.put, List.getElem_toArray, List.getElem_cons_zero, List.getElem_cons_succ, List.setIfInBounds_toArray, List.set_cons_zero, List.set_cons_succ]
      refine wpAnyH_take (i := 10) (v := ?_) rfl (by kernel_rfl) (by kernel_rfl) (by kernel_rfl) (fun _ _ _ h => h) (Or.inl ⟨by rfl, ?yo10⟩) (by assumption) ?qo10
      case yo10 => (intro wz hSw; (try dsimp only at hSw); go_simp <;> with_reducible rfl)
      try simp only [Act.put, List.getElem_toArray, List.getElem_cons_zero, List.getElem_cons_succ, List.setIfInBounds_toArray, List.set_cons_zero, List.set_cons_succ]
      refine wpAnyH_take (i := 11) (v := ?_) rfl (by kernel_rfl) (by kernel_rfl) (by kernel_rfl) (fun _ _ _ h => h) (Or.inl ⟨by rfl, ?yo11⟩) (by assumption) ?qo11
      case yo11 => (intro wz hSw; (try dsimp only at hSw); go_simp <;> with_reducible rfl)
      try simp only [Act.put, List.getElem_toArray, List.getElem_cons_zero, List.getElem_cons_succ, List.setIfInBounds_toArray, List.set_cons_zero, List.set_cons_succ]
      refine wpAnyH_done (by kernel_rfl) ?_ _
      clear hHeld0
      go_wp2_with fail
      go_ret
      exact ⟨rfl, HA.out.drew 1⟩
    · rw [if_neg h3]
      have e3 : (ph == 3) = false := by rw [beq_eq_false_iff_ne]; exact h3
      clear h2 h3 hl2
      unfold boxWr at hW
      go_enter Try.func65, Try.ntmps65
      go_wp2
      go_ret
      exact ⟨rfl, by rw [← hW]; exact HA.out⟩
end Go.Proofs.Ytiiipnfkkdfgbaa.Off
