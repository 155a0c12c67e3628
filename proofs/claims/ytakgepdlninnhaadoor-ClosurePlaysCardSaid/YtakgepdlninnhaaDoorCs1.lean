/-
  Closures: rows in a slice of pointers, laid one by one. Not a statement of the seat.
-/
import Derived.Test.YtakgepdlninnhaaDoorRow12
import Derived.Test.YtakgepdlninnhaaDoorRowList
import Derived.Test.YtakgepdlninnhaaDoorFrame
import Derived.Deep.DeepCutAuto
import Derived.Laws.CopyOwn
namespace Go.Proofs.YtakgepdlninnhaaDoor.Cs
open Go.ChangeShapes Go.WideShapes Go.ChangeAt Go.RowKit Base F Bits
theorem pr_info : (Tryd.prog.info? 54).map (fun i => (i.zero, i.size, i.bytes)) = some (some (.pointer none), 1, 8) := by kernel_rfl
/-- A row's pointer is put behind a slice of such of the call's own. -/
theorem append_pr {ops : Array Oper} {rest : List Oper} {o : Oper} {a : Act} {Q : Exit → Act → World → Prop} (hgd : o.guard = none) (s x : Operand)
    (ho : o.op = .call { callee := .builtin .append, args := #[s, x], argTypes := #[52, 52] }) {B g : Nat} {w : World} {v u : Value} {vs : List Value} {p : Option Addr}
    (hB : B ≤ w.heap.size) (hown : w.ownsRow B 54 1 v vs.length vs) (hs : a.eval s = v) (hy : w.heap[g]? = some (.cells #[.pointer p] 54)) (hu : u = .slice (some ⟨g, 0, none⟩) 1 1) (hx : a.eval x = u) (hl : vs.length ≤ 100000)
    (h : ∀ v' w', w'.ownsRow B 54 1 v' (vs ++ [Value.pointer p]).length (vs ++ [Value.pointer p]) → w.grownBy w' v.ownBlock → wpList Tryd.prog ops Q rest (a.put o.dst v') w') :
    wpList Tryd.prog ops Q (o :: rest) a w := by
  refine wpList_plain hgd fun K hK => ?_
  obtain ⟨i0, hi, hz0, hz1, hz2⟩ := info_parts pr_info
  subst hu
  obtain ⟨v', w', hr, h2, h3, _, h5⟩ := run_append_own_at (P := Tryd.prog) w B 52 o.type 54 i0 (.pointer none) 1 8 Tryd.underlying52 hi hz0 hz1 hz2 rfl (by decide) v vs.length vs hown ⟨g, 0, none⟩ 1 1 [.pointer p] (by simp) (by
    intro t y hy2
    match t, hy2 with
    | 0, hy2 =>
      simp at hy2
      subst hy2
      simp [Addr.add, World.cell?, hy]) (by
    intro y hy2
    simp at hy2
    subst hy2
    rfl) (by simp only [maxLen]; omega) (by omega) hB
  unfold Oper.wp execOp
  simp only [ho, resolve, invoke, builtin, Sem.run_bind, Sem.run_pure, Result.andThen_ok, List.map_toArray, List.map_cons, List.map_nil, hs, hx, hr]
  refine hK _ _ (h v' w' ?_ h3)
  rw [List.length_append]
  exact h2
def ptrs (i : Nat) (rb : Nat → Nat) : List Value := (List.range i).map fun j => Value.pointer (some ⟨rb j, 0, none⟩)
theorem ptrs_len (i : Nat) (rb : Nat → Nat) : (ptrs i rb).length = i := by simp [ptrs]
def upN (f : Nat → Nat) (i x : Nat) : Nat → Nat := fun j => if j = i then x else f j
theorem upN_at (f : Nat → Nat) (i x : Nat) : upN f i x i = x := by simp [upN]
theorem upN_ne (f : Nat → Nat) {i j : Nat} (x : Nat) (h : j ≠ i) : upN f i x j = f j := by simp [upN, h]
theorem ptrs_succ (i : Nat) (rb : Nat → Nat) (x : Nat) : ptrs (i + 1) (upN rb i x) = ptrs i rb ++ [.pointer (some ⟨x, 0, none⟩)] := by
  unfold ptrs
  rw [List.range_succ, List.map_append, List.map_singleton, upN_at]
  congr 1
  refine List.map_congr_left fun j hj => ?_
  rw [upN_ne _ _ (by have := List.mem_range.1 hj; omega)]
/-- Rows of n places, without any, laid one by one. -/
structure RP (B : Nat) (w0 w : World) (v : Value) (i n : Nat) (rb rg : Nat → Nat) : Prop where
  own : w.ownsRow B 54 1 v i (ptrs i rb)
  row : ∀ j, j < i → RowAt w (rb j) (rg j) n 0
  ge : ∀ j, j < i → B ≤ rb j ∧ B ≤ rg j
  inj : ∀ j, j < i → ∀ j', j' < i → rg j = rg j' → j = j'
  below : Below B w0 w
  size : B ≤ w.heap.size
section
variable {B i n : Nat} {w0 w w1 w2 w3 : World} {v : Value} {rb rg : Nat → Nat}
theorem RP.start (w : World) (n : Nat) (rb rg : Nat → Nat) : RP w.heap.size w w (.slice none 0 0) 0 n rb rg := ⟨World.ownsRow_nil _ _ _ _, fun _ h => absurd h (Nat.not_lt_zero _), fun _ h => absurd h (Nat.not_lt_zero _), fun _ h => absurd h (Nat.not_lt_zero _), Below.refl _ _, Nat.le_refl _⟩
theorem own_below {e : TypeId} {vs : List Value} {m : Nat} (h : w.ownsRow B e 1 v m vs) (hb : Below w.heap.size w w1) : w1.ownsRow B e 1 v m vs := by
  refine ⟨h.1, ?_⟩
  rcases h.2 with hn | ⟨g, cap, cur, h1, h2, h3, h4⟩
  · exact .inl hn
  · exact .inr ⟨g, cap, cur, h1, h2, (hb.block g (heap_lt h3)).trans h3, h4⟩
/-- One row more. -/
theorem RP.app (h : RP B w0 w v i n rb rg) {b g : Nat} {v' : Value} (hr : RowAt w1 b g n 0) (hb1 : Below w.heap.size w w1) (hbg : w.heap.size ≤ b ∧ w.heap.size ≤ g) (hb2 : Below w1.heap.size w1 w2) (ho : w3.ownsRow B 54 1 v' (ptrs i rb ++ [Value.pointer (some ⟨b, 0, none⟩)]).length (ptrs i rb ++ [Value.pointer (some ⟨b, 0, none⟩)])) (hg : w2.grownBy w3 v.ownBlock) : RP B w0 w3 v' (i + 1) n (upN rb i b) (upN rg i g) := by
  have hb : Below w.heap.size w w2 := hb1.trans (hb2.mono hb1.size)
  have hown2 := own_below h.own hb
  have keep : ∀ {b' g' : Nat}, RowAt w2 b' g' n 0 → RowAt w3 b' g' n 0 := fun {b' g'} hr' => by
    have h1 : v.ownBlock ≠ some b' := own_ne hown2 hr'.1 (by decide)
    have h2 : v.ownBlock ≠ some g' := own_ne hown2 hr'.2.1 (by decide)
    exact hr'.keep (hg.block _ (heap_lt hr'.1) (fun e => h1 e.symm)) (hg.block _ (heap_lt hr'.2.1) (fun e => h2 e.symm))
  refine ⟨?_, fun j hj => ?_, fun j hj => ?_, fun j hj j' hj' e => ?_, ?_, ?_⟩
  · rw [ptrs_succ]
    rw [List.length_append, ptrs_len, List.length_singleton] at ho
    exact ho
  · by_cases e : j = i
    · subst e
      rw [upN_at, upN_at]
      exact keep (hr.below hb2)
    · rw [upN_ne _ _ e, upN_ne _ _ e]
      exact keep ((h.row j (by omega)).below hb)
  · by_cases e : j = i
    · subst e
      rw [upN_at, upN_at]
      have := h.size
      omega
    · rw [upN_ne _ _ e, upN_ne _ _ e]
      exact h.ge j (by omega)
  · have lt : ∀ j, j < i → rg j < w.heap.size := fun j hj => heap_lt (h.row j hj).2.1
    by_cases e1 : j = i
    · by_cases e2 : j' = i
      · omega
      · rw [e1, upN_at, upN_ne _ _ e2] at e
        have := lt j' (by omega)
        omega
    · by_cases e2 : j' = i
      · rw [e2, upN_at, upN_ne _ _ e1] at e
        have := lt j (by omega)
        omega
      · rw [upN_ne _ _ e1, upN_ne _ _ e2] at e
        exact h.inj j (by omega) j' (by omega) e
  · have hB2 := h.below.trans (hb.mono h.size)
    exact Below.grown hB2 hg (Nat.le_trans h.size hb.size) (fun z hz => (World.ownsRow.lt hown2 z hz).1)
  · exact Nat.le_trans (Nat.le_trans h.size hb.size) hg.size
end
/-- What emptyRows leaves. -/
def RowsNew (n : Nat) (w : World) (e : Ending) (w' : World) : Prop := ∃ v rb rg, e = .returned v ∧ RP w.heap.size w w' v n n rb rg
set_option maxRecDepth 100000 in
set_option maxHeartbeats 2000000 in
theorem emptyRows_any (n : Nat) (hn : n ≤ 4096) (w : World) : Calls Tryd.prog 22 #[.int .i64 (n : Int)] w (RowsNew n w) := by
  have HNEW : Hid (∀ W, Calls Tryd.prog 29 #[.int .i64 (n : Int)] W (RowNew n 0 W)) := Lib.hid fun W => by
    have := new_row (n : Int) W
    rw [show Bits.rowLen (n : Int) = n by unfold Bits.rowLen; omega] at this
    exact this
  have hni : (n : Int) ≤ 4096 := by omega
  have HN4 := Lib.hid hn
  clear hn
  go_enter Tryd.func22, Tryd.ntmps22
  go_wp2_with fail
  go_loopw [3, 5] (fun s3 s5 wr => ∃ i : Nat, s5 = .int .i64 (i : Int) ∧ i ≤ n ∧ Hid (∃ rb rg, RP w.heap.size w wr s3 i n rb rg)) (fun _ s5 _ => n - (intOf s5).toNat)
  case atStart => exact ⟨0, rfl, Nat.zero_le _, Lib.hid ⟨fun _ => 0, fun _ => 0, RP.start w n _ _⟩⟩
  case round =>
    obtain ⟨i, rfl, hi, HI⟩ := hrel
    by_cases hlt : i < n
    · have hii : (i : Int) < (n : Int) := by omega
      go_wp2_with fail
      refine (HNEW.out wr).mono ?_
      rintro e w2 ⟨b, g, rfl, hr, hb2, hbg⟩
      obtain ⟨rb, rg, hp⟩ := HI.out
      have HP := Lib.hid hp
      have HR := Lib.hid hr
      have HB := Lib.hid hb2
      have HG := Lib.hid hbg
      clear hp hr hb2 hbg HI
      go_wp2_with (refine append_pr rfl (.tmp 7) (.tmp 10) rfl (B := w.heap.size) (g := w2.heap.size) (vs := ptrs i rb) (p := some ⟨b, 0, none⟩) (Nat.le_trans HP.out.size (Nat.le_trans HB.out.size (by simp))) (by rw [ptrs_len]; exact own_below HP.out.own (HB.out.trans (((Below.refl _ _).alloc (Nat.le_refl _) _).mono HB.out.size))) rfl (heap_alloc_at _ _ _ rfl) rfl rfl (by rw [ptrs_len]; have := HN4.out; omega) ?_; intro v3 w3 ho3 hg3; have HQ := Lib.hid (HP.out.app HR.out HB.out HG.out ((Below.refl _ _).alloc (Nat.le_refl _) _) ho3 hg3); clear ho3 hg3)
      go_roundw
      case rel => exact ⟨i + 1, by go_num, hlt, Lib.hid ⟨_, _, HQ.out⟩⟩
      case measure => simp [intOf]; omega
    · have e : n = i := by omega
      subst e
      have HR : Hid (RowsNew n w (.returned u3) wr) := Lib.hid (by obtain ⟨rb, rg, hp⟩ := HI.out; exact ⟨_, rb, rg, rfl, hp⟩)
      clear HI
      go_wp2
      go_ret
      exact HR.out
end Go.Proofs.YtakgepdlninnhaaDoor.Cs
