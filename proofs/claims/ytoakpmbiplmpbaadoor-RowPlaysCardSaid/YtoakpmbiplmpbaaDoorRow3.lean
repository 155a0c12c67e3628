/-
  A contract of Of: a row with the places of a list set. Not a statement of the seat.
-/
import Derived.Test.YtoakpmbiplmpbaaDoorRow1
import Derived.LoopTactic
namespace Go.Proofs.YtoakpmbiplmpbaaDoor.Bits
open Go.ChangeShapes Go.WideShapes Go.ChangeAt Go.RowKit Base
/-- The bits of those of zs that are places. -/
def ofV (N : Nat) (zs : List Int) : Nat := zs.foldl (fun V i => setV N V i true) 0
theorem ofV_succ (N : Nat) (zs : List Int) (k : Nat) (h : k < zs.length) : ofV N (zs.take (k + 1)) = setV N (ofV N (zs.take k)) (zs.getD k 0) true := by
  unfold ofV
  rw [List.take_succ_eq_append_getElem h, List.foldl_append]
  simp [h]
theorem set_world {b g n V : Nat} {i : Int} {w0 w w' : World} {e : Ending} (h : SetPost b g n V i true w e w') (hb : Below w0.heap.size w0 w) (hg : w0.heap.size ≤ g) : Below w0.heap.size w0 w' :=
  hb.grown h.2.2 hb.size (by intro k hk; cases hk; exact hg)
set_option maxHeartbeats 1000000 in
theorem of_any (n : Int) (sb so c : Nat) (zs : List Int) (w : World) (hc : ∀ k, k < zs.length → w.cell? ⟨sb, so + k, none⟩ = some (.int .i64 (zs.getD k 0))) (hlen : zs.length ≤ 9223372036854775807) (hsb : sb < w.heap.size) :
    Calls Tryd.prog 17 #[.int .i64 n, .slice (some ⟨sb, so, none⟩) zs.length c] w fun e w' => e = .returned (.pointer (some ⟨w.heap.size + 1, 0, none⟩)) ∧ RowAt w' (w.heap.size + 1) w.heap.size (rowLen n) (ofV (rowLen n) zs) ∧ Below w.heap.size w w' := by
  have HN := Lib.hid (new_any n w)
  have HC := Lib.hid hc
  have HF : Hid (ofV (rowLen n) (zs.take zs.length) = ofV (rowLen n) zs) := Lib.hid (by rw [List.take_length])
  have HT := Lib.hid (ofV_succ (rowLen n) zs)
  clear hc
  generalize rowLen n = N at HN HF HT ⊢
  go_enter Tryd.func17, Tryd.ntmps17
  go_wp2_with fail
  refine (HN.out).mono ?_
  rintro e w1 ⟨rfl, hr, hb⟩
  have HR := Lib.hid hr
  have HB := Lib.hid hb
  clear hr hb HN
  go_wp2_with fail
  go_loopw [12] (fun s12 wr => ∃ k : Nat, k ≤ zs.length ∧ s12 = .int .i64 k ∧ RowAt wr (w.heap.size + 1) w.heap.size N (ofV N (zs.take k)) ∧ Below w.heap.size w wr) (fun i _ => zs.length - (intOf i).toNat)
  case atStart => exact ⟨0, Nat.zero_le _, rfl, HR.out, HB.out⟩
  case round =>
    obtain ⟨k, hk, rfl, hr, hb⟩ := hrel
    by_cases hlt : k < zs.length
    · have hx : wr.cell? ⟨sb, so + k, none⟩ = some (.int .i64 (zs.getD k 0)) := (hb.cell (p := ⟨sb, so + k, none⟩) hsb).trans (HC.out k hlt)
      have HS := Lib.hid (fun on => set_any (w.heap.size + 1) w.heap.size N (ofV N (zs.take k)) (zs.getD k 0) on wr hr)
      have HB2 := Lib.hid hb
      have HT2 := Lib.hid (HT.out k hlt)
      clear hr hb
      generalize zs.getD k 0 = z at hx HS HT2
      go_wp2_with fail
      refine (HS.out true).mono ?_
      intro e w2 hp
      have he := hp.1
      have HP := Lib.hid hp
      subst he
      clear hp
      go_wp2_with fail
      go_roundw
      case rel => exact ⟨k + 1, by omega, by go_num, by rw [HT2.out]; exact HP.out.2.1, set_world HP.out HB2.out (Nat.le_refl _)⟩
      case measure => simp [intOf]; omega
    · have e : k = zs.length := by omega
      rw [e, HF.out] at hr
      have HR2 := Lib.hid hr
      have HB2 := Lib.hid hb
      clear hr hb e
      go_wp2
      go_ret
      exact ⟨rfl, HR2.out, HB2.out⟩
end Go.Proofs.YtoakpmbiplmpbaaDoor.Bits
