/-
  Contracts of txn's functions at a transaction that is known, for lives. Not a statement of the seat.
-/
import Derived.Test.YtaogofjnpnheeaaGreatDoorTx9
import Derived.Test.YtaogofjnpnheeaaGreatDoorLstSame
import Derived.Laws.MakeOwn
namespace Go.Proofs.YtaogofjnpnheeaaGreatDoor.Tx
open Go.ChangeShapes Go.WideShapes Go.ChangeAt Go.RowKit Base F Lst Nu
theorem joinG {α β γ : Type} {P : Prop} (J : α → β → γ → Prop) (G : α → β → γ → Prop) (h1 : (∀ x y u, J x y u → G x y u) → P) (h2 : ∀ x y u, J x y u → G x y u) : P := h1 h2
theorem own_lit (zs : List Opr) {W : World} {g : Nat} {vs : Array Value} (hv : vs = (zs.flatMap Opr.vals).toArray) (h : W.heap[g]? = some (.cells vs 30)) (hl : zs.length ≤ 65536) (m : Nat) (hm : m = zs.length) : Oprs 0 W (.slice (some ⟨g, 0, none⟩) m m) zs := by
  subst hm hv
  have : OwnOpr 0 W (.slice (some ⟨g, 0, none⟩) zs.length zs.length) zs := ⟨by rw [opr_flat_len], .inr ⟨g, zs.length, (zs.flatMap Opr.vals).toArray, rfl, Nat.zero_le _, h, Nat.le_refl _, by simp only [maxLen]; omega, by rw [List.size_toArray, opr_flat_len], by rw [List.toList_toArray, ← opr_flat_len, List.take_length]⟩⟩
  exact this.list (by omega)
theorem own_ver (zs : List Ver) {W : World} {g : Nat} {vs : Array Value} (hv : vs = (zs.flatMap Ver.vals).toArray) (h : W.heap[g]? = some (.cells vs 42)) (hl : zs.length ≤ 65536) (m : Nat) (hm : m = zs.length) : Vers 0 W (.slice (some ⟨g, 0, none⟩) m m) zs := by
  subst hm hv
  have : OwnVer 0 W (.slice (some ⟨g, 0, none⟩) zs.length zs.length) zs := ⟨by rw [ver_flat_len], .inr ⟨g, zs.length, (zs.flatMap Ver.vals).toArray, rfl, Nat.zero_le _, h, Nat.le_refl _, by simp only [maxLen]; omega, by rw [List.size_toArray, ver_flat_len], by rw [List.toList_toArray, ← ver_flat_len, List.take_length]⟩⟩
  exact this.list (by omega)
def L4 : List Opr := [⟨false, 5, 0, 0⟩, ⟨true, 5, 3, 1⟩, ⟨true, 1, 2, 1⟩, ⟨true, 1, 2, 1⟩]
def L2 : List Opr := [⟨true, 5, 3, 1⟩, ⟨false, 5, 0, 0⟩]
theorem L4_ok : ∀ x ∈ L4, Opr.ok x := by
  intro x hx
  simp only [L4, List.mem_cons, List.not_mem_nil, or_false] at hx
  rcases hx with rfl | rfl | rfl | rfl <;> (unfold Opr.ok; dsimp only; omega)
theorem f_right : rightT 3 L4 = 0 := by decide
theorem f_right2 : rightT 3 L2 = 6 := by decide
theorem f_right0 : rightT 0 [] = 1 := by decide
theorem f_right1 : rightT 1 [Opr.zero] = 1 := by decide
theorem f_wr5 : wrN L4 5 = 1 := by decide
theorem f_wr1 : wrN L4 1 = 0 := by decide
theorem f_keys : keysO (bareL L4) = [5] := by decide
theorem f_tch : keysO L4 = [1, 5] := by decide
theorem f_needs : needsL 3 L4 = [⟨2, 1, 1⟩] := by rfl
theorem f_bare : bareL L4 = [⟨false, 5, 0, 0⟩] := by rfl
theorem f_text : textT 3 true L4 = [51, 32, 99, 32, 119, 53, 32, 114, 53, 64, 51, 46, 49, 32, 114, 49, 64, 50, 46, 49, 32, 114, 49, 64, 50, 46, 49] := by kernel_rfl
theorem f_text7 : textT 7 false [] = [55, 32, 97] := by kernel_rfl
theorem f_same : sameT 3 3 true true L4 L4 = true := by unfold sameT; rw [(Op.sameO_iff _ _).2 rfl]; rfl
theorem f_nsame : sameT 3 3 true true L4 [⟨false, 5, 0, 0⟩] = false := by rfl
theorem k_right {b : Nat} {W : World} {s : Value} {l : List Opr} (id : Int) (d : Bool) (n : Int) (h : Oprs b W s l) (hl : l.length ≤ 100000) (hn : rightT id l = n) : Calls Tryz.prog 5 #[.agg #[.int .i64 id, .bool d, s]] W fun e w' => e = .returned (.int .i64 n) ∧ Aft W w' := by
  have := right_any id d W h hl
  rw [hn] at this
  exact this
set_option maxRecDepth 100000 in
theorem k_long0 {W : World} (p : Option Addr) (c : Nat) : Calls Tryz.prog 5 #[.agg #[.int .i64 1, .bool false, .slice p 4096 c]] W (IntNew 9 W) := by
  have HE : Hid (∀ w', Aft W w' → IntNew 9 W (.returned (.int .i64 9)) w') := Lib.hid fun w' h => ⟨rfl, h⟩
  generalize IntNew 9 W = Post at HE ⊢
  go_enter Tryz.func5, Tryz.ntmps5
  go_wp2
  exact HE.out _ (Aft.one _)
theorem k_long {W : World} (p : Option Addr) (c : Nat) : Calls Tryz.prog 5 #[.agg #[.int .i64 1, .bool false, .slice p 4096 c]] W fun e w' => e = .returned (.int .i64 9) ∧ Aft W w' := k_long0 p c
theorem k_writes {b : Nat} {W : World} {s : Value} {l : List Opr} (id key : Int) (d : Bool) (n : Int) (h : Oprs b W s l) (hl : l.length ≤ 100000) (hn : ((wrN l key : Nat) : Int) = n) : Calls Tryz.prog 9 #[.agg #[.int .i64 id, .bool d, s], .int .i64 key] W fun e w' => e = .returned (.int .i64 n) ∧ Aft W w' := by
  have := writes_any id key d W h (by omega)
  rw [hn] at this
  exact this
theorem k_keys {b : Nat} {W : World} {s : Value} {l : List Opr} (id : Int) (d : Bool) (ks : List Int) (h : Oprs b W s l) (hl : l.length ≤ 100000) (hn : keysO (bareL l) = ks) : Calls Tryz.prog 11 #[.agg #[.int .i64 id, .bool d, s]] W fun e w' => ∃ v, e = .returned v ∧ Ints 0 w' v ks ∧ Aft W w' := by
  have hb : ks.length ≤ 100000 := by rw [← hn]; have := keysL_len ((bareL l).map Opr.k); have := bareL_len l; unfold keysO; simp at this ⊢; simp at *; omega
  have := keys_any id d W h hl
  rw [hn] at this
  exact this.mono fun e w' ⟨v, h1, h2, h3⟩ => ⟨v, h1, (h2.ints (by omega)).mono (Nat.zero_le _), h3⟩
theorem k_touched {b : Nat} {W : World} {s : Value} {l : List Opr} (id : Int) (d : Bool) (ks : List Int) (h : Oprs b W s l) (hl : l.length ≤ 100000) (hn : keysO l = ks) : Calls Tryz.prog 12 #[.agg #[.int .i64 id, .bool d, s]] W fun e w' => ∃ v, e = .returned v ∧ Ints 0 w' v ks ∧ Aft W w' := by
  have hb : ks.length ≤ 100000 := by rw [← hn]; have := keysL_len (l.map Opr.k); unfold keysO; simp at *; omega
  have := touched_any id d W h hl
  rw [hn] at this
  exact this.mono fun e w' ⟨v, h1, h2, h3⟩ => ⟨v, h1, (h2.ints (by omega)).mono (Nat.zero_le _), h3⟩
theorem k_sameI {b1 b2 : Nat} {W : World} {v u : Value} {zs : List Int} (h : Ints b1 W v zs) (hu : Ints b2 W u zs) : Calls Tryz.prog 10 #[v, u] W fun e w' => e = .returned (.bool true) ∧ Aft W w' :=
  (sameInts_yes h hu).mono fun e w' ⟨h1, q, h2⟩ => ⟨h1, by rw [h2]; exact (Aft.refl W).drew q⟩
theorem k_needs {b : Nat} {W : World} {s : Value} {l : List Opr} (id : Int) (d : Bool) (vs : List Ver) (h : Oprs b W s l) (hok : ∀ x ∈ l, Opr.ok x) (hl : l.length ≤ 100000) (hn : needsL id l = vs) : Calls Tryz.prog 14 #[.agg #[.int .i64 id, .bool d, s]] W fun e w' => ∃ v, e = .returned v ∧ Vers 0 w' v vs ∧ Aft W w' := by
  have hb : vs.length ≤ 100000 := by rw [← hn]; have := needs_len id l; omega
  have := needs_any id d W h hok hl
  rw [hn] at this
  exact this.mono fun e w' ⟨v, h1, h2, h3⟩ => ⟨v, h1, (h2.list (by omega)).mono (Nat.zero_le _), h3⟩
theorem k_sameV {b1 b2 : Nat} {W : World} {v u : Value} {zs : List Ver} (h : Vers b1 W v zs) (hu : Vers b2 W u zs) (hl : zs.length ≤ 100000) : Calls Tryz.prog 13 #[v, u] W fun e w' => e = .returned (.bool true) ∧ Aft W w' :=
  (samev_ref v u zs zs W h hu hl).mono fun e w' ⟨h1, q, h2⟩ => ⟨by rw [h1, (sameVs_iff zs zs).2 rfl], by rw [h2]; exact (Aft.refl W).drew q⟩
theorem k_weight {b : Nat} {W : World} {s : Value} {l : List Opr} (id : Int) (d : Bool) (n : Int) (h : Oprs b W s l) (hl : l.length ≤ 100000) (hn : (l.length : Int) + 1 = n) : Calls Tryz.prog 15 #[.agg #[.int .i64 id, .bool d, s]] W fun e w' => e = .returned (.int .i64 n) ∧ Aft W w' := by
  have := weight_any id d W h (by omega)
  rw [hn] at this
  exact this
theorem k_text {b : Nat} {W : World} {s : Value} {l : List Opr} (id : Int) (d : Bool) (hp : Pow W) (h : Oprs b W s l) (hi : -9223372036854775808 ≤ id ∧ id ≤ 9223372036854775807) (hok : ∀ x ∈ l, Opr.ok x) (hl : l.length ≤ 100000) (t : Array UInt8) (ht : textT id d l = t.toList) : Calls Tryz.prog 6 #[.agg #[.int .i64 id, .bool d, s]] W fun e w' => e = .returned (.string ⟨t⟩) ∧ Aft W w' := by
  have := text_any id d W hp h hi hok hl
  rw [ht] at this
  exact this
theorem k_same {b1 b2 : Nat} {W : World} {s s2 : Value} {l l2 : List Opr} (id id2 : Int) (d d2 : Bool) (r : Bool) (h : Oprs b1 W s l) (h2 : Oprs b2 W s2 l2) (hr : sameT id id2 d d2 l l2 = r) : Calls Tryz.prog 8 #[.agg #[.int .i64 id, .bool d, s], .agg #[.int .i64 id2, .bool d2, s2]] W fun e w' => e = .returned (.bool r) ∧ Aft W w' := by
  have := same_tx id id2 d d2 W h h2
  rw [hr] at this
  exact this
theorem k_bare {b : Nat} {W : World} {s : Value} {l : List Opr} (id : Int) (d : Bool) (zs : List Opr) (h : Oprs b W s l) (hl : l.length ≤ 100000) (hn : bareL l = zs) (m : Nat) (hm : zs.length = m) : Calls Tryz.prog 16 #[.agg #[.int .i64 id, .bool d, s]] W fun e w' => ∃ p c, e = .returned (.agg #[.int .i64 id, .bool d, .slice p m c]) ∧ Oprs 0 w' (.slice p m c) zs ∧ Aft W w' := by
  have := bare_any id d W h hl
  have hz : zs.length ≤ 100000 := by rw [← hn]; have := bareL_len l; omega
  rw [hn] at this
  refine this.mono fun e w' ⟨v, h1, h2, h3⟩ => ?_
  obtain ⟨p, c, rfl, _⟩ := ownOpr_slice h2
  have h4 := (h2.list (by omega)).mono (Nat.zero_le _)
  rw [hm] at h4 h1
  exact ⟨p, c, h1, h4, h3⟩
/-- make of operations, at the operation. -/
theorem wp_makeO {o : Oper} {a : Act} {w : World} {K : Act → World → Prop} {Q : Exit → Act → World → Prop} (x y : Operand) (hop : o.op = Op.makeSlice 22 x y) (hx : a.eval x = .int .i64 4096) (hy : a.eval y = .int .i64 4096)
    (h : ∀ p U, Aft w U → K (a.put o.dst (.slice p 4096 4096)) U) : Oper.wp Tryz.prog o a w K Q := by
  obtain ⟨i0, hi, hz0, hz1, hz2⟩ := info_parts opr_info
  have hr := run_make (P := Tryz.prog) w 22 30 i0 _ Tryz.underlying22 hi hz0 .i64 .i64 4096 4096 (by omega) (by omega) (by rw [hz2]; decide) (by omega)
  unfold Oper.wp
  simp only [execOp, hop, hx, hy]
  have h2 := h (some ⟨w.heap.size, 0, none⟩) _ (Aft.one (w := w) (.cells (madeCells (Value.agg #[.bool false, .int .i64 0, .int .i64 0, .int .i64 0]).cells ((4096 : Int).toNat * i0.size)) 30))
  generalize (w.alloc (.cells (madeCells (Value.agg #[.bool false, .int .i64 0, .int .i64 0, .int .i64 0]).cells ((4096 : Int).toNat * i0.size)) 30)) = U at hr h2
  simp [hr, Result.andThen]
  exact h2
end Go.Proofs.YtaogofjnpnheeaaGreatDoor.Tx
