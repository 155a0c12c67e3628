/-
  Contracts of txn's Touched, of the document's put and Keys. Not a statement of the seat.
-/
import Derived.Test.YtaogofjnpnheeaaGreatDoorTx2
namespace Go.Proofs.YtaogofjnpnheeaaGreatDoor.Tx
open Go.ChangeShapes Go.WideShapes Go.ChangeAt Go.RowKit Base F Lst Go.Sort
set_option maxRecDepth 100000 in
theorem touched_any {base : Nat} {s : Value} {l : List Opr} (id : Int) (d : Bool) (w : World) (h : Oprs base w s l) (hl : l.length ≤ 100000) : Calls Tryz.prog 12 #[.agg #[.int .i64 id, .bool d, s]] w (OwnNew (keysO l) w) := by
  have HK : Hid (∀ o, Calls Tryz.prog 26 #[s] (w.alloc o) fun e w' => ∃ v, e = .returned v ∧ OwnNew (keysO l) w (.returned v) w') := Lib.hid fun o => (keysOf_any (w.alloc o) (h.below ((Below.refl _ _).alloc (Nat.le_refl _) _)) hl).mono fun e w' ⟨v, h1, h2, h3⟩ => ⟨v, h1, v, rfl, by
    refine ⟨h2.1, ?_⟩
    rcases h2.2 with hn | ⟨g, cap, cur, hv, hB, rest⟩
    · exact .inl hn
    · exact .inr ⟨g, cap, cur, hv, Nat.le_trans (by simp) hB, rest⟩, (Aft.one o).trans h3⟩
  generalize OwnNew (keysO l) w = Post at HK ⊢
  clear h
  go_enter Tryz.func12, Tryz.ntmps12
  go_wp2_with (go_at_call 26; refine (HK.out _).mono ?_; rintro e w1 ⟨v, rfl, h1⟩; have H1 := Lib.hid h1; clear h1)
  exact H1.out
/-- Those that are written alone, or all. -/
def tch (b : Bool) (l : List Opr) : List Opr := if b then l else bareL l
theorem tch_snoc (b : Bool) (l : List Opr) (o : Opr) : tch b (l ++ [o]) = tch b l ++ (if b = true ∨ o.rd = false then [o] else []) := by
  unfold tch
  cases b with
  | true => simp
  | false => rw [if_neg (by simp), if_neg (by simp), bareL_snoc]; cases o.rd <;> simp
theorem tch_len (b : Bool) (l : List Opr) : (tch b l).length ≤ l.length := by unfold tch; cases b; exact bareL_len l; exact Nat.le_refl _
end Go.Proofs.YtaogofjnpnheeaaGreatDoor.Tx
