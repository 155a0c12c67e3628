/-
  Contracts of the program's operations: Text; the document's Right and Text. Not a statement of the seat.
-/
import Derived.Test.YtaogofjnpnheeaaGreatDoorOp1
import Derived.Test.YtaogofjnpnheeaaGreatDoorNuTx
import Derived.Lib.QuietBelow
namespace Go.Proofs.YtaogofjnpnheeaaGreatDoor.Op
open Go.ChangeShapes Go.WideShapes Go.ChangeAt Go.RowKit Base Nu Pk F Go.Lib
theorem itoaB {n : Int} (h : -9223372036854775808 ≤ n ∧ n ≤ 9223372036854775807) : ((⟨(itoa n).toArray⟩ : ByteArray)).size ≤ 20 := by
  show (itoa n).toArray.size ≤ 20
  simpa using itoa_len h.1 h.2
theorem textW (b : ByteArray) (l : List UInt8) (hb : b = ⟨l.toArray⟩) : (⟨#[119]⟩ ++ b : ByteArray) = ⟨(119 :: l).toArray⟩ := by
  subst hb
  apply ByteArray.ext
  simp
theorem textR1 (b c : ByteArray) (l m : List UInt8) (hb : b = ⟨l.toArray⟩) (hc : c = ⟨m.toArray⟩) : ((⟨#[114]⟩ ++ b ++ ⟨#[64]⟩ ++ c : ByteArray)) = ⟨(114 :: (l ++ 64 :: m)).toArray⟩ := by
  subst hb hc
  apply ByteArray.ext
  simp
theorem textR2 (b c d : ByteArray) (l m k : List UInt8) (hb : b = ⟨l.toArray⟩) (hc : c = ⟨m.toArray⟩) (hd : d = ⟨k.toArray⟩) : ((⟨#[114]⟩ ++ b ++ ⟨#[64]⟩ ++ c ++ ⟨#[46]⟩ ++ d : ByteArray)) = ⟨(114 :: (l ++ 64 :: (m ++ 46 :: k))).toArray⟩ := by
  subst hb hc hd
  apply ByteArray.ext
  simp
theorem ret_str {a b : ByteArray} (h : a = b) : Ending.returned (.string a) = .returned (.string b) := by rw [h]
set_option maxHeartbeats 4000000 in
set_option maxRecDepth 100000 in
theorem text2_any (x : Opr) (hx : x.ok) (w : World) (hp : Pow w) : Calls Tryz.prog 22 #[.agg #[.bool x.rd, .int .i64 x.k, .int .i64 x.t, .int .i64 x.n]] w (TextPost (textO x) w) := by
  have HRI := Lib.hid (right_any x)
  have HP := Lib.hid hp
  clear hp
  cases hR : rightO x
  · have ht : textO x = [] := by unfold textO; rw [hR]; rfl
    rw [ht]
    have hy : whyO x = 1 := by unfold whyO; rw [hR]; rfl
    rw [hy] at HRI
    clear hy
    obtain ⟨rd, k, t, n⟩ := x
    clear hR ht
    go_enter Tryz.func22, Tryz.ntmps22
    go_wp2_with fail
    refine (HRI.out _).mono ?_
    rintro e w1 ⟨rfl, hb1⟩
    go_wp2
    go_ret
    exact ⟨rfl, bel1 hb1⟩
  have hy : whyO x = 0 := by unfold whyO; rw [hR]; rfl
  rw [hy] at HRI
  clear hy
  obtain ⟨rd, k, t, n⟩ := x
  obtain ⟨hk, ht, hn⟩ := hx
  dsimp only at hk ht hn
  cases rd with
  | false =>
    have HT : Hid (textO ⟨false, k, t, n⟩ = 119 :: itoa k) := Lib.hid (by unfold textO; rw [hR]; rfl)
    have TK : Hid (∀ X, Below w.heap.size w X → Calls Tryz.prog 21 #[.int .i64 k] X fun e w' => e = .returned (.string ⟨(itoa k).toArray⟩) ∧ Below X.heap.size X w') := Lib.hid fun X hX => text_any k hk.1 hk.2 X (HP.out.below hX)
    have hs := itoaB hk
    obtain ⟨b, hb⟩ : ∃ b : ByteArray, b = ⟨(itoa k).toArray⟩ := ⟨_, rfl⟩
    rw [← hb] at TK hs
    have HB := Lib.hid (textW b _ hb)
    rw [HT.out]
    clear hb HT hR hk ht hn
    go_enter Tryz.func22, Tryz.ntmps22
    go_wp2_with fail
    refine (HRI.out _).mono ?_
    rintro e w1 ⟨rfl, hb1⟩
    have B1 := Lib.hid (bel1 hb1)
    obtain ⟨⟨c0, c1, c2, c3⟩, _⟩ := blk4 hb1 (g := w.heap.size) (by simp) (heap_alloc_at _ _ _ rfl)
    clear hb1
    go_wp2_with fail
    refine (TK.out _ B1.out).mono ?_
    rintro e w2 ⟨rfl, hb2⟩
    have B2 := Lib.hid (B1.out.trans (hb2.mono B1.out.size))
    clear hb2
    go_wp2
    go_ret
    exact ⟨ret_str HB.out, B2.out⟩
  | true =>
    have HT : Hid (textO ⟨true, k, t, n⟩ = if t = 0 then 114 :: (itoa k ++ 64 :: itoa t) else 114 :: (itoa k ++ 64 :: (itoa t ++ 46 :: itoa n))) := Lib.hid (by unfold textO; rw [hR]; rfl)
    rw [HT.out]
    have TK : Hid (∀ X, Below w.heap.size w X → Calls Tryz.prog 21 #[.int .i64 k] X fun e w' => e = .returned (.string ⟨(itoa k).toArray⟩) ∧ Below X.heap.size X w') := Lib.hid fun X hX => text_any k hk.1 hk.2 X (HP.out.below hX)
    have TT : Hid (∀ X, Below w.heap.size w X → Calls Tryz.prog 21 #[.int .i64 t] X fun e w' => e = .returned (.string ⟨(itoa t).toArray⟩) ∧ Below X.heap.size X w') := Lib.hid fun X hX => text_any t ht.1 ht.2 X (HP.out.below hX)
    have TN : Hid (∀ X, Below w.heap.size w X → Calls Tryz.prog 21 #[.int .i64 n] X fun e w' => e = .returned (.string ⟨(itoa n).toArray⟩) ∧ Below X.heap.size X w') := Lib.hid fun X hX => text_any n hn.1 hn.2 X (HP.out.below hX)
    have hs := itoaB hk
    have hs2 := itoaB ht
    have hs3 := itoaB hn
    obtain ⟨b, hb⟩ : ∃ b : ByteArray, b = ⟨(itoa k).toArray⟩ := ⟨_, rfl⟩
    obtain ⟨c, hc⟩ : ∃ b : ByteArray, b = ⟨(itoa t).toArray⟩ := ⟨_, rfl⟩
    obtain ⟨d, hd⟩ : ∃ b : ByteArray, b = ⟨(itoa n).toArray⟩ := ⟨_, rfl⟩
    rw [← hb] at TK hs
    rw [← hc] at TT hs2
    rw [← hd] at TN hs3
    have HB := Lib.hid (textR1 b c _ _ hb hc)
    have HB2 := Lib.hid (textR2 b c d _ _ _ hb hc hd)
    generalize 114 :: (itoa k ++ 64 :: itoa t) = L1 at HB ⊢
    generalize 114 :: (itoa k ++ 64 :: (itoa t ++ 46 :: itoa n)) = L2 at HB2 ⊢
    have h1 : b.size + 1 ≤ 21 := by omega
    have h2 : b.size + 1 + 1 + c.size ≤ 42 := by omega
    clear hb hc hd HT hR hk hn
    have step : ∀ (w1 : World), Below w.heap.size w w1 → True := fun _ _ => trivial
    clear step
    by_cases h0 : t = 0
    · rw [if_pos h0]
      subst h0
      go_enter Tryz.func22, Tryz.ntmps22
      go_wp2_with fail
      refine (HRI.out _).mono ?_
      rintro e w1 ⟨rfl, hb1⟩
      have B1 := Lib.hid (bel1 hb1)
      obtain ⟨⟨c0, c1, c2, c3⟩, _⟩ := blk4 hb1 (g := w.heap.size) (by simp) (heap_alloc_at _ _ _ rfl)
      clear hb1
      have R1 : Hid (∀ d os, Calls Tryz.prog 21 #[.int .i64 k] (Go.Sort.grow (redrawn w1 d) os) fun e w'' => e = .returned (.string b) ∧ ∃ p : Regrown, w'' = Go.Sort.grow (redrawn w1 p.d) p.os) := Lib.hid fun d os => Calls.regrown_of (TK.out _ (B1.out.trans ((below_regrown w1 d os).mono B1.out.size)))
      have R2 : Hid (∀ d os, Calls Tryz.prog 21 #[.int .i64 0] (Go.Sort.grow (redrawn w1 d) os) fun e w'' => e = .returned (.string c) ∧ ∃ p : Regrown, w'' = Go.Sort.grow (redrawn w1 p.d) p.os) := Lib.hid fun d os => Calls.regrown_of (TT.out _ (B1.out.trans ((below_regrown w1 d os).mono B1.out.size)))
      have k0 := cell_regrown c0
      have k1 := cell_regrown c1
      have k2 := cell_regrown c2
      have k3 := cell_regrown c3
      go_wp2_with fail
      refine wp_region_quiet_below (by kernel_rfl) (by kernel_rfl) ?_
      repeat (go_big_quiet_step (first | with_reducible exact R1.out _ _ | with_reducible exact R2.out _ _))
      refine wpQuiet_nil ?_
      intro _ hw'
      obtain ⟨⟨dq, osq⟩, hw''⟩ := hw'
      subst hw''
      have B2 := Lib.hid (B1.out.trans ((below_regrown w1 dq osq).mono B1.out.size))
      have k2' := k2 dq osq
      clear k0 k1 k2 k3 R1 R2 c0 c1 c2 c3
      go_wp2
      go_ret
      exact ⟨ret_str HB.out, B2.out⟩
    · rw [if_neg h0]
      have h0' : (t == 0) = false := by rw [beq_eq_false_iff_ne]; exact h0
      clear h0
      have h3 : b.size + 1 + 1 + c.size + 1 ≤ 43 := by omega
      go_enter Tryz.func22, Tryz.ntmps22
      go_wp2_with fail
      refine (HRI.out _).mono ?_
      rintro e w1 ⟨rfl, hb1⟩
      have B1 := Lib.hid (bel1 hb1)
      obtain ⟨⟨c0, c1, c2, c3⟩, _⟩ := blk4 hb1 (g := w.heap.size) (by simp) (heap_alloc_at _ _ _ rfl)
      clear hb1
      have R1 : Hid (∀ d os, Calls Tryz.prog 21 #[.int .i64 k] (Go.Sort.grow (redrawn w1 d) os) fun e w'' => e = .returned (.string b) ∧ ∃ p : Regrown, w'' = Go.Sort.grow (redrawn w1 p.d) p.os) := Lib.hid fun d os => Calls.regrown_of (TK.out _ (B1.out.trans ((below_regrown w1 d os).mono B1.out.size)))
      have R2 : Hid (∀ d os, Calls Tryz.prog 21 #[.int .i64 t] (Go.Sort.grow (redrawn w1 d) os) fun e w'' => e = .returned (.string c) ∧ ∃ p : Regrown, w'' = Go.Sort.grow (redrawn w1 p.d) p.os) := Lib.hid fun d os => Calls.regrown_of (TT.out _ (B1.out.trans ((below_regrown w1 d os).mono B1.out.size)))
      have k0 := cell_regrown c0
      have k1 := cell_regrown c1
      have k2 := cell_regrown c2
      have k3 := cell_regrown c3
      go_wp2_with fail
      refine wp_region_quiet_below (by kernel_rfl) (by kernel_rfl) ?_
      repeat (go_big_quiet_step (first | with_reducible exact R1.out _ _ | with_reducible exact R2.out _ _))
      refine wpQuiet_nil ?_
      intro _ hw'
      obtain ⟨⟨dq, osq⟩, hw''⟩ := hw'
      subst hw''
      have B2 := Lib.hid (B1.out.trans ((below_regrown w1 dq osq).mono B1.out.size))
      have k2' := k2 dq osq
      have k3' := k3 dq osq
      clear k0 k1 k2 k3 R1 R2 c0 c1 c2 c3
      go_wp2_with fail
      refine (TN.out _ B2.out).mono ?_
      rintro e w3 ⟨rfl, hb3⟩
      have B3 := Lib.hid (B2.out.trans (hb3.mono B2.out.size))
      clear hb3
      go_wp2
      go_ret
      exact ⟨ret_str HB2.out, B3.out⟩
end Go.Proofs.YtaogofjnpnheeaaGreatDoor.Op
