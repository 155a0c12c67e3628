/-
  Contracts: whether two lists of versions are one (the document's); whether two transactions are (the program's). Not a statement of the seat.
-/
import Derived.Test.YtaogofjnpnheeaaGreatDoorTx7
import Derived.Deep.QuietTactic
import Derived.BigQuiet
namespace Go.Proofs.YtaogofjnpnheeaaGreatDoor.Tx
open Go.ChangeShapes Go.WideShapes Go.ChangeAt Go.RowKit Base F Lst
/-- Are two lists of versions one? -/
def sameVs (a b : List Ver) : Bool := decide (a.length = b.length) && (List.range a.length).all fun k => Ver.beq (a.getD k Ver.zero) (b.getD k Ver.zero)
theorem sameVs_iff (a b : List Ver) : sameVs a b = true ↔ a = b := by
  unfold sameVs
  rw [Bool.and_eq_true, decide_eq_true_eq, List.all_eq_true]
  constructor
  · rintro ⟨h1, h2⟩
    apply List.ext_getElem h1
    intro k ha hb
    have := (Ver.beq_iff _ _).1 (h2 k (List.mem_range.2 ha))
    simpa [List.getD_eq_getElem?_getD, ha, hb] using this
  · rintro rfl
    exact ⟨rfl, fun k _ => Ver.beq_self _⟩
/-- What a call that tells a bool, and draws, leaves. -/
def VDrew (is : Bool) (w : World) (e : Ending) (w' : World) : Prop := e = .returned (.bool is) ∧ ∃ n, w' = w.drewN n
set_option maxRecDepth 100000 in
set_option maxHeartbeats 2000000 in
theorem samev_ref {ba bb : Nat} (v u : Value) (a b : List Ver) (w : World) (ha : Vers ba w v a) (hb : Vers bb w u b) (hl : a.length ≤ 100000) : Calls Tryz.prog 13 #[v, u] w (VDrew (sameVs a b) w) := by
  obtain ⟨p, c, rfl, _, hca⟩ := ha.open_
  obtain ⟨q, d, rfl, hlb, hcb⟩ := hb.open_
  clear ha hb
  by_cases hne : a.length = b.length
  · have HA := Lib.hid hca
    have HBB := Lib.hid hcb
    have HN : Hid (∀ k, k < a.length → Ver.beq (a.getD k Ver.zero) (b.getD k Ver.zero) = false → sameVs a b = false) := Lib.hid fun k hk h => by
      rw [Bool.eq_false_iff]
      intro h2
      rw [(sameVs_iff a b).1 h2, Ver.beq_self] at h
      cases h
    have HY : Hid ((∀ k, k < a.length → Ver.beq (a.getD k Ver.zero) (b.getD k Ver.zero) = true) → sameVs a b = true) := Lib.hid fun h => by
      unfold sameVs
      rw [Bool.and_eq_true, decide_eq_true_eq, List.all_eq_true]
      exact ⟨hne, fun k hk => h k (List.mem_range.1 hk)⟩
    have HE := Lib.hid hne
    rw [← hne] at hcb ⊢
    generalize sameVs a b = r at HN HY ⊢
    clear hca hcb hne
    go_enter Tryz.func13, Tryz.ntmps13
    go_wp2_with fail
    go_loopw [5, 13] (fun _ s13 wr => ∃ k q : Nat, s13 = .int .i64 (k : Int) ∧ k ≤ a.length ∧ Hid (∀ j, j < k → Ver.beq (a.getD j Ver.zero) (b.getD j Ver.zero) = true) ∧ wr = w.drewN q) (fun _ s13 _ => a.length - (intOf s13).toNat)
    case atStart => exact ⟨0, 0, rfl, Nat.zero_le _, Lib.hid (fun j hj => absurd hj (by omega)), rfl⟩
    case round =>
      obtain ⟨k, nq, rfl, hk, HF, rfl⟩ := hrel
      by_cases hlt : k < a.length
      · obtain ⟨g1, o1, rfl, _, _, c0, c1, c2⟩ := HA.out k hlt
        obtain ⟨g2, o2, rfl, _, _, d0, d1, d2⟩ := HBB.out k (by rw [← HE.out]; exact hlt)
        have hn := HN.out k hlt
        have HF2 : Hid (Ver.beq (a.getD k Ver.zero) (b.getD k Ver.zero) = true → ∀ j, j < k + 1 → Ver.beq (a.getD j Ver.zero) (b.getD j Ver.zero) = true) := Lib.hid fun h j hj => by
          by_cases e : j = k
          · subst e; exact h
          · exact HF.out j (by omega)
        generalize a.getD k Ver.zero = x at c0 c1 c2 hn HF2
        generalize b.getD k Ver.zero = y at d0 d1 d2 hn HF2
        have hq := ne_ver x y
        cases hb : Ver.beq x y
        · have hr := hn hb
          subst hr
          rw [hb] at hq
          clear hn HN HY HF HF2 hb
          go_wp2_with fail
          go_quiet (fail)
          go_wp2
          go_ret
          exact ⟨rfl, _, by rw [World.drewN_drewN]⟩
        · rw [hb] at hq
          have HF3 := Lib.hid (HF2.out hb)
          clear hn hb HF HF2
          go_wp2_with fail
          go_quiet (fail)
          go_wp2
          go_roundw
          case rel => exact ⟨k + 1, _, by go_num, by omega, HF3, rfl⟩
          case measure => simp [intOf]; omega
      · have e : k = a.length := by omega
        subst e
        have hr := HY.out HF.out
        subst hr
        clear HN HY HF HA HBB
        go_wp2
        go_ret
        exact ⟨rfl, _, rfl⟩
  · have hr : sameVs a b = false := by
      unfold sameVs
      rw [decide_eq_false hne]; rfl
    have hne2 : ((a.length : Int) != (b.length : Int)) = true := by rw [bne_iff_ne]; omega
    rw [hr]
    clear hr hca hcb
    go_enter Tryz.func13, Tryz.ntmps13
    go_wp2
    go_ret
    exact ⟨rfl, 0, rfl⟩
def sameT (id id2 : Int) (d d2 : Bool) (l l2 : List Opr) : Bool := (id == id2) && (d == d2) && Op.sameO l l2
set_option maxRecDepth 100000 in
set_option maxHeartbeats 1000000 in
theorem same_tx {b1 b2 : Nat} {s s2 : Value} {l l2 : List Opr} (id id2 : Int) (d d2 : Bool) (w : World) (h : Oprs b1 w s l) (h2 : Oprs b2 w s2 l2) : Calls Tryz.prog 8 #[.agg #[.int .i64 id, .bool d, s], .agg #[.int .i64 id2, .bool d2, s2]] w (BoolNew (sameT id id2 d d2 l l2) w) := by
  have HS : Hid (∀ W, Aft w W → Calls Tryz.prog 25 #[s, s2] W fun e w' => e = .returned (.bool (Op.sameO l l2)) ∧ Aft w w') := Lib.hid fun W hW => (Op.same_any W s s2 l l2 b1 b2 (h.below hW) (h2.below hW)).mono fun e w' ⟨h1, q, h2⟩ => ⟨h1, by rw [h2]; exact hW.drew q⟩
  obtain ⟨p, c, rfl, _⟩ := h.open_
  obtain ⟨p2, c2, rfl, _⟩ := h2.open_
  have HE : Hid (∀ b w', b = sameT id id2 d d2 l l2 → Aft w w' → BoolNew (sameT id id2 d d2 l l2) w (.returned (.bool b)) w') := Lib.hid fun b w' h1 h2 => ⟨by rw [h1], h2⟩
  have HT : Hid (sameT id id2 d d2 l l2 = ((id == id2) && (d == d2) && Op.sameO l l2)) := Lib.hid rfl
  have HA : Hid (∀ o1 o2, Aft w ((w.alloc o1).alloc o2)) := Lib.hid fun o1 o2 => (Aft.one o1).lay o2
  clear h h2
  generalize BoolNew (sameT id id2 d d2 l l2) w = Post at HE ⊢
  generalize sameT id id2 d d2 l l2 = r at HE HT
  generalize Op.sameO l l2 = q at HS HT
  generalize l.length = n at *
  generalize l2.length = n2 at *
  cases h1 : (id == id2) with
  | false =>
    have HR : Hid (false = r) := Lib.hid (by rw [HT.out, h1]; rfl)
    go_enter Tryz.func8, Tryz.ntmps8
    go_wp2
    exact HE.out _ _ HR.out (HA.out _ _)
  | true =>
    cases h2 : (d == d2) with
    | false =>
      have HR : Hid (false = r) := Lib.hid (by rw [HT.out, h1, h2]; rfl)
      go_enter Tryz.func8, Tryz.ntmps8
      go_wp2
      exact HE.out _ _ HR.out (HA.out _ _)
    | true =>
      have HR : Hid (q = r) := Lib.hid (by rw [HT.out, h1, h2]; rfl)
      go_enter Tryz.func8, Tryz.ntmps8
      go_wp2_with (go_at_call 25; refine (HS.out _ (HA.out _ _)).mono ?_; rintro e w2 ⟨rfl, h3⟩; have H3 := Lib.hid h3; clear h3)
      exact HE.out _ _ HR.out H3.out
end Go.Proofs.YtaogofjnpnheeaaGreatDoor.Tx
