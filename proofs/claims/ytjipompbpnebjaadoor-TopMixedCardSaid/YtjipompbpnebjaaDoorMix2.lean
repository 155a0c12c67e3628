/-
  Contracts of the program's sums: New, put, Add, Len, Value, Ints. Not a statement of the seat.
-/
import Derived.Test.YtjipompbpnebjaaDoorMix1
import Derived.RegionTactic
import Derived.Outline
import Derived.BigRegion
namespace Go.Proofs.YtjipompbpnebjaaDoor.Mx
open Go.ChangeShapes Go.WideShapes Go.ChangeAt Go.RowKit Base Lst
/-- Block b is a sum whose state is s, of c numbers. -/
def SumAt (w : World) (b s c : Nat) : Prop := w.heap[b]? = some (.cells #[.int .u64 (s : Int), .int .i64 (c : Int)] 56) ∧ s < 18446744073709551616 ∧ c ≤ 1000000000
theorem SumAt.head {w : World} {b s c : Nat} (h : SumAt w b s c) : (w.cell? ⟨b, 0, none⟩ = some (.int .u64 (s : Int)) ∧ w.cell? ⟨b, 1, none⟩ = some (.int .i64 (c : Int))) ∧ (w.frozen? ⟨b, 0, none⟩ = false ∧ w.frozen? ⟨b, 1, none⟩ = false) := by
  simp [World.cell?, World.frozen?, h.1]
theorem SumAt.below {w w1 : World} {b s c : Nat} (h : SumAt w b s c) (hb : Below w.heap.size w w1) : SumAt w1 b s c := ⟨(hb.block b (heap_lt h.1)).trans h.1, h.2⟩
theorem SumAt.put_ {w : World} {b s c s' : Nat} (h : SumAt w b s c) (hs : s' < 18446744073709551616) (hc : c + 1 ≤ 1000000000) :
    SumAt ((w.setCell ⟨b, 0, none⟩ (.int .u64 (s' : Int))).setCell ⟨b, 1, none⟩ (.int .i64 ((c : Int) + 1))) b s' (c + 1) := by
  refine ⟨?_, hs, hc⟩
  simp only [World.setCell, Array.getElem?_modify, if_true, h.1, Option.map_some]
  rfl
theorem put_grown (w : World) (b : Nat) (x y : Value) : w.grownBy ((w.setCell ⟨b, 0, none⟩ x).setCell ⟨b, 1, none⟩ y) (some b) :=
  ⟨rfl, rfl, rfl, by simp, fun k _ hk => (Below.heap_setCell _ _ _ _ (fun e => hk (by rw [e]))).trans (Below.heap_setCell _ _ _ _ (fun e => hk (by rw [e])))⟩
theorem new_any (w : World) : Calls Tryd.prog 22 #[] w fun e w' => e = .returned (.pointer (some ⟨w.heap.size, 0, none⟩)) ∧ SumAt w' w.heap.size 0 0 ∧ Below w.heap.size w w' := by
  go_enter Tryd.func22, Tryd.ntmps22
  go_wp2
  go_ret
  exact ⟨rfl, ⟨heap_alloc_at _ _ _ rfl, by decide, by decide⟩, by go_grown⟩
/-- What putting numbers does. -/
def PutPost (b s c : Nat) (w : World) (e : Ending) (w' : World) : Prop := e = .returned (.tuple #[]) ∧ SumAt w' b s c ∧ w.grownBy w' (some b)
set_option maxHeartbeats 1000000 in
theorem put_any (b s c : Nat) (x : Int) (w : World) (h : SumAt w b s c) (hc : c + 1 ≤ 1000000000) :
    Calls Tryd.prog 33 #[.pointer (some ⟨b, 0, none⟩), .int .i64 x] w (PutPost b (mixN (s ^^^ u64N x)) (c + 1) w) := by
  obtain ⟨⟨h0, h1⟩, f0, f1⟩ := h.head
  have hs := h.2.1
  have hw := u64N_wrap x
  have hu := u64N_lt x
  have HP : Hid (∀ s' : Nat, s' < 18446744073709551616 → PutPost b s' (c + 1) w (.returned (.tuple #[])) ((w.setCell ⟨b, 0, none⟩ (.int .u64 (s' : Int))).setCell ⟨b, 1, none⟩ (.int .i64 ((c : Int) + 1)))) := Lib.hid fun s' hs' => ⟨rfl, h.put_ hs' hc, put_grown _ _ _ _⟩
  generalize u64N x = u at hw hu
  have hx := u64_xor_nat s u hs hu
  have HM := Lib.hid (mixP_any (s ^^^ u) w (Nat.xor_lt_two_pow (n := 64) hs hu))
  have HPM := Lib.hid (HP.out _ (mixN_lt (s ^^^ u)))
  clear HP h
  generalize PutPost b (mixN (s ^^^ u)) (c + 1) w = Post at HPM ⊢
  generalize mixN (s ^^^ u) = m at HM HPM
  generalize s ^^^ u = z at hx HM
  go_enter Tryd.func33, Tryd.ntmps33
  go_wp2_with fail
  refine (HM.out).mono ?_
  rintro e w1 ⟨rfl, rfl⟩
  go_wp2
  go_end0
  exact HPM.out
theorem len_any (b s c : Nat) (w : World) (h : SumAt w b s c) : Calls Tryd.prog 25 #[.pointer (some ⟨b, 0, none⟩)] w fun e w' => e = .returned (.int .i64 (c : Int)) ∧ w = w' := by
  obtain ⟨⟨h0, h1⟩, _⟩ := h.head
  clear h
  go_enter Tryd.func25, Tryd.ntmps25
  go_wp2
  go_ret
  exact ⟨rfl, rfl⟩
theorem len_nil (w : World) : Calls Tryd.prog 25 #[.pointer none] w fun e w' => e = .returned (.int .i64 0) ∧ w = w' := by
  go_enter Tryd.func25, Tryd.ntmps25
  go_wp2
  go_ret
  exact ⟨rfl, rfl⟩
theorem add_nil (v : Value) (w : World) : Calls Tryd.prog 23 #[.pointer none, v] w fun e w' => e = .returned (.tuple #[]) ∧ w = w' := by
  go_enter Tryd.func23, Tryd.ntmps23
  go_wp2
  exact bodyPost_ret (v := .tuple #[]) (results_none rfl _ _ _) rfl ⟨rfl, rfl⟩
/-- What Value leaves: draws alone. -/
def ValPost (r : Nat) (w : World) (e : Ending) (w' : World) : Prop := e = .returned (.int .u64 (r : Int)) ∧ ∃ n, w' = w.drewN n
set_option maxHeartbeats 1000000 in
theorem value_any (b s c : Nat) (w : World) (h : SumAt w b s c) : Calls Tryd.prog 24 #[.pointer (some ⟨b, 0, none⟩)] w (ValPost (valueN s c) w) := by
  obtain ⟨⟨h0, h1⟩, _⟩ := h.head
  have hs := h.2.1
  have hc := h.2.2
  have hw1 : IntKind.u64.wrap (c : Int) = (c : Int) := by rw [IntKind.wrap_u64]; omega
  have hw2 : IntKind.u64.wrap ((s : Int) + (c : Int)) = (((s + c) % 18446744073709551616 : Nat) : Int) := by rw [IntKind.wrap_u64]; omega
  have HM : Hid (∀ wx, Calls Tryd.prog 19 #[.int .u64 (((s + c) % 18446744073709551616 : Nat) : Int)] wx fun e w' => e = .returned (.int .u64 (valueN s c : Nat)) ∧ wx = w') := Lib.hid fun wx => mixP_any _ wx (Nat.mod_lt _ (by decide))
  generalize valueN s c = r at HM ⊢
  generalize (s + c) % 18446744073709551616 = z at hw2 HM
  clear h
  go_enter Tryd.func24, Tryd.ntmps24
  go_wp2
  go_quiet ((go_at_call 19; exact Calls.quiet_of_same ((HM.out _).mono fun _ _ ⟨a, b⟩ => ⟨a, b.symm⟩)))
  go_wp2
  go_ret
  exact ⟨rfl, _, rfl⟩
set_option maxHeartbeats 1000000 in
theorem add_any {base : Nat} {xs : List Int} {v : Value} (W : World) (b s c : Nat) (w : World) (hl : Ints base W v xs) (hW : Below W.heap.size W w) (hb : W.heap.size ≤ b ∨ b < base) (h : SumAt w b s c) (hc : c + xs.length ≤ 1000000000) :
    Calls Tryd.prog 23 #[.pointer (some ⟨b, 0, none⟩), v] w (PutPost b (stateN s xs) (c + xs.length) w) := by
  obtain ⟨p, cp, rfl, hll, hcs⟩ := hl.open_
  have HC := Lib.hid hcs
  have HW := Lib.hid hW
  have HS : Hid (∀ k, k < xs.length → stateN s (xs.take (k + 1)) = mixN (stateN s (xs.take k) ^^^ u64N (xs.getD k 0))) := Lib.hid fun k hk => stateN_snoc hk
  have HF : Hid (stateN s (xs.take xs.length) = stateN s xs) := Lib.hid (by rw [List.take_length])
  have H0 : Hid (SumAt w b (stateN s (xs.take 0)) (c + 0)) := Lib.hid h
  have HB := Lib.hid hb
  clear hcs hl h hW hb
  go_enter Tryd.func23, Tryd.ntmps23
  go_wp2_with fail
  go_loopw [5, 10] (fun _ s10 wr => ∃ k : Nat, s10 = .int .i64 (k : Int) ∧ k ≤ xs.length ∧ Hid (SumAt wr b (stateN s (xs.take k)) (c + k)) ∧ Hid (w.grownBy wr (some b))) (fun _ s10 _ => xs.length - (intOf s10).toNat)
  case atStart => exact ⟨0, rfl, Nat.zero_le _, H0, Lib.hid (World.grownBy.refl _ _)⟩
  case round =>
    obtain ⟨k, rfl, hk, HA, HG⟩ := hrel
    by_cases hlt : k < xs.length
    · obtain ⟨g', o', rfl, hgb, hg, hcell⟩ := HC.out k hlt
      have hcell2 : wr.cell? ⟨g', o' + k, none⟩ = some (.int .i64 (xs.getD k 0)) := by
        have e1 := (HW.out.cell (p := ⟨g', o' + k, none⟩) hg).trans hcell
        rw [World.cell?_of_block (w := w) (a := ⟨g', o' + k, none⟩) (HG.out.block g' (Nat.lt_of_lt_of_le hg HW.out.size) (fun e => by have := Option.some.inj e; have := HB.out; omega))]
        exact e1
      have HP := Lib.hid (put_any b _ _ (xs.getD k 0) wr HA.out (by omega))
      rw [← HS.out k hlt] at HP
      clear hcell hg HA hgb
      generalize xs.getD k 0 = x at hcell2 HP
      go_wp2_with fail
      refine (HP.out).mono ?_
      rintro e w2 ⟨rfl, h1, h2⟩
      have HA2 := Lib.hid h1
      have HG2 := Lib.hid (HG.out.trans h2)
      clear h1 h2
      go_wp2_with fail
      go_roundw
      case rel => exact ⟨k + 1, by go_num, by omega, HA2, HG2⟩
      case measure => simp [intOf]; omega
    · have e : k = xs.length := by omega
      subst e
      have HE : Hid (PutPost b (stateN s xs) (c + xs.length) w (.returned (.tuple #[])) wr) := Lib.hid ⟨rfl, by rw [← HF.out]; exact HA.out, HG.out⟩
      generalize PutPost b (stateN s xs) (c + xs.length) w = Post at HE ⊢
      clear HA HG HC HS HF
      go_wp2
      go_end0
      exact HE.out
end Go.Proofs.YtjipompbpnebjaaDoor.Mx
