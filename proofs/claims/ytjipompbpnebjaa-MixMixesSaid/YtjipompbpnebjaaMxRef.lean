/-
  Contracts of the document's own answers on mixes: fold, Mix, Ints, Text. Not a statement of the seat.
-/
import Derived.Test.YtjipompbpnebjaaLst
import Derived.Laws.BitsAllLaws
import Derived.Lib.Hide
namespace Go.Proofs.Ytjipompbpnebjaa.Mx
open Go.ChangeShapes Go.WideShapes Go.ChangeAt Go.RowKit Base Lst
/-- A number put together with itself moved down. -/
def foldN (x n : Nat) : Nat := x ^^^ (x / 2 ^ n)
theorem foldN_lt {x n : Nat} (h : x < 18446744073709551616) : foldN x n < 18446744073709551616 :=
  Nat.xor_lt_two_pow (n := 64) h (Nat.lt_of_le_of_lt (Nat.div_le_self _ _) h)
set_option maxHeartbeats 1000000 in
theorem fold_any (x n : Nat) (w : World) (hx : x < 18446744073709551616) (hn : n ≤ 64) :
    Calls Try.prog 19 #[.int .u64 (x : Int), .int .u64 (n : Int)] w fun e w' => e = .returned (.int .u64 (foldN x n : Nat)) ∧ w = w' := by
  have HX : Hid (bits .xor .u64 (x : Int) ((x / 2 ^ n : Nat) : Int) = (foldN x n : Nat)) := Lib.hid (u64_xor_nat x _ hx (Nat.lt_of_le_of_lt (Nat.div_le_self _ _) hx))
  have HS : Hid (∀ i, x / 2 ^ (i + 1) = x / 2 ^ i / 2) := Lib.hid fun i => by rw [Nat.pow_succ, Nat.div_div_eq_div_mul]
  have HL : Hid (∀ i, x / 2 ^ i < 18446744073709551616) := Lib.hid fun i => Nat.lt_of_le_of_lt (Nat.div_le_self _ _) hx
  have H0 : Hid (x / 2 ^ 0 = x) := Lib.hid (by simp)
  generalize foldN x n = r at HX ⊢
  go_enter Try.func19, Try.ntmps19
  go_wp2
  go_loop [5, 6] (fun s5 s6 => ∃ i y : Nat, i ≤ n ∧ s6 = .int .u64 (i : Int) ∧ s5 = .int .u64 (y : Int) ∧ Hid (y = x / 2 ^ i)) (fun _ s6 => n - (intOf s6).toNat)
  case atStart => exact ⟨0, x, Nat.zero_le _, rfl, rfl, Lib.hid H0.out.symm⟩
  case round =>
    obtain ⟨i, y, hi, rfl, rfl, HY⟩ := hrel
    have hy : y < 18446744073709551616 := by rw [HY.out]; exact HL.out i
    by_cases hlt : i < n
    · have HY2 : Hid (y / 2 = x / 2 ^ (i + 1)) := Lib.hid (by rw [HS.out, HY.out])
      clear HY HS HL H0 HX
      go_wp2
      go_round
      case rel => exact ⟨i + 1, y / 2, by omega, by go_num, by go_num, HY2⟩
      case measure => simp [intOf]; omega
    · obtain rfl : i = n := by omega
      have hb := HX.out
      rw [← HY.out] at hb
      clear HY HS HL H0 HX
      go_wp2
      go_ret
      exact ⟨rfl, rfl⟩
def mulN (x m : Nat) : Nat := x * m % 18446744073709551616
theorem mulN_lt (x m : Nat) : mulN x m < 18446744073709551616 := Nat.mod_lt _ (by decide)
theorem mulN_wrap (x m : Nat) : IntKind.u64.wrap ((x : Int) * (m : Int)) = (mulN x m : Nat) := by
  unfold mulN
  rw [IntKind.wrap_u64, Int.natCast_emod, Int.natCast_mul]
  rfl
/-- The mix of a number. -/
def mixN (x : Nat) : Nat := foldN (mulN (foldN (mulN (foldN x 32) 15485907386658061715) 29) 11562461410679940143) 32
theorem mixN_lt (x : Nat) : mixN x < 18446744073709551616 := foldN_lt (mulN_lt _ _)
theorem mixN_eq (x : Nat) : mixN x = foldN (mulN (foldN (mulN (foldN x 32) 15485907386658061715) 29) 11562461410679940143) 32 := rfl
attribute [irreducible] mixN
set_option maxHeartbeats 1000000 in
theorem mixR_any (x : Nat) (w : World) (hx : x < 18446744073709551616) :
    Calls Try.prog 8 #[.int .u64 (x : Int)] w fun e w' => e = .returned (.int .u64 (mixN x : Nat)) ∧ w = w' := by
  have H1 : Hid (Calls Try.prog 19 #[.int .u64 (x : Int), .int .u64 32] w fun e w' => e = .returned (.int .u64 (foldN x 32 : Nat)) ∧ w = w') := Lib.hid (fold_any x 32 w hx (by decide))
  have hm1 : IntKind.u64.wrap (((foldN x 32 : Nat) : Int) * 15485907386658061715) = ((mulN (foldN x 32) 15485907386658061715 : Nat) : Int) := mulN_wrap (foldN x 32) 15485907386658061715
  have HM : Hid (mixN x = foldN (mulN (foldN (mulN (foldN x 32) 15485907386658061715) 29) 11562461410679940143) 32) := Lib.hid (mixN_eq x)
  have hl1 := mulN_lt (foldN x 32) 15485907386658061715
  generalize mixN x = r at HM ⊢
  generalize foldN x 32 = a at H1 hm1 hl1 HM
  generalize mulN a 15485907386658061715 = b at hm1 hl1 HM
  have H2 : Hid (Calls Try.prog 19 #[.int .u64 (b : Int), .int .u64 29] w fun e w' => e = .returned (.int .u64 (foldN b 29 : Nat)) ∧ w = w') := Lib.hid (fold_any b 29 w hl1 (by decide))
  have hm2 : IntKind.u64.wrap (((foldN b 29 : Nat) : Int) * 11562461410679940143) = ((mulN (foldN b 29) 11562461410679940143 : Nat) : Int) := mulN_wrap (foldN b 29) 11562461410679940143
  have hl2 := mulN_lt (foldN b 29) 11562461410679940143
  generalize foldN b 29 = c at H2 hm2 hl2 HM
  generalize mulN c 11562461410679940143 = d at hm2 hl2 HM
  have H3 : Hid (Calls Try.prog 19 #[.int .u64 (d : Int), .int .u64 32] w fun e w' => e = .returned (.int .u64 (foldN d 32 : Nat)) ∧ w = w') := Lib.hid (fold_any d 32 w hl2 (by decide))
  rw [← HM.out] at H3
  clear hl1 hl2 HM
  go_enter Try.func8, Try.ntmps8
  go_wp2_with fail
  refine (H1.out).mono ?_
  rintro e w1 ⟨rfl, rfl⟩
  go_wp2_with fail
  refine (H2.out).mono ?_
  rintro e w1 ⟨rfl, rfl⟩
  go_wp2_with fail
  refine (H3.out).mono ?_
  rintro e w1 ⟨rfl, rfl⟩
  go_wp2
  go_ret
  exact ⟨rfl, rfl⟩
/-- A number as 64 bits. -/
def u64N (n : Int) : Nat := (n % 18446744073709551616).toNat
theorem u64N_wrap (n : Int) : IntKind.u64.wrap n = (u64N n : Nat) := by
  unfold u64N
  rw [IntKind.wrap_u64]
  omega
theorem u64N_lt (n : Int) : u64N n < 18446744073709551616 := by unfold u64N; omega
/-- The state behind some numbers. -/
def stateN (h : Nat) (l : List Int) : Nat := l.foldl (fun h n => mixN (h ^^^ u64N n)) h
theorem stateN_lt : ∀ (l : List Int) (h : Nat), h < 18446744073709551616 → stateN h l < 18446744073709551616
  | [], _, hh => hh
  | _ :: l, _, _ => stateN_lt l _ (mixN_lt _)
theorem stateN_snoc {l : List Int} {h k : Nat} (hk : k < l.length) : stateN h (l.take (k + 1)) = mixN (stateN h (l.take k) ^^^ u64N (l.getD k 0)) := by
  have e : l.getD k 0 = l[k] := by simp [hk]
  rw [e]
  unfold stateN
  rw [List.take_succ_eq_append_getElem hk, List.foldl_append, List.foldl_cons, List.foldl_nil]
/-- Many numbers as one. -/
def valueN (h m : Nat) : Nat := mixN ((h + m) % 18446744073709551616)
def intsN (l : List Int) : Nat := valueN (stateN 0 l) l.length
set_option maxHeartbeats 1000000 in
theorem intsR_any {base : Nat} {v : Value} {xs : List Int} (w : World) (h : Ints base w v xs) :
    Calls Try.prog 11 #[v] w fun e w' => e = .returned (.int .u64 (intsN xs : Nat)) ∧ w = w' := by
  obtain ⟨p, c, rfl, hl, hc⟩ := h.open_
  have HC := Lib.hid hc
  have HS : Hid (∀ k, k < xs.length → stateN 0 (xs.take (k + 1)) = mixN (stateN 0 (xs.take k) ^^^ u64N (xs.getD k 0))) := Lib.hid fun k hk => stateN_snoc hk
  have HL : Hid (∀ k, stateN 0 (xs.take k) < 18446744073709551616) := Lib.hid fun k => stateN_lt _ _ (by decide)
  have HF : Hid (intsN xs = mixN ((stateN 0 (xs.take xs.length) + xs.length) % 18446744073709551616)) := Lib.hid (by rw [List.take_length]; unfold intsN valueN; rfl)
  clear hc h
  generalize intsN xs = r at HF ⊢
  go_enter Try.func11, Try.ntmps11
  go_wp2_with fail
  go_loopw [3, 8] (fun s3 s8 wr => ∃ k h : Nat, s8 = .int .i64 (k : Int) ∧ k ≤ xs.length ∧ s3 = .int .u64 (h : Int) ∧ Hid (h = stateN 0 (xs.take k)) ∧ wr = w) (fun _ s8 _ => xs.length - (intOf s8).toNat)
  case atStart => exact ⟨0, 0, rfl, Nat.zero_le _, rfl, Lib.hid rfl, rfl⟩
  case round =>
    obtain ⟨k, h, rfl, hk, rfl, HH, rfl⟩ := hrel
    have hh : h < 18446744073709551616 := by rw [HH.out]; exact HL.out k
    by_cases hlt : k < xs.length
    · obtain ⟨g', o', rfl, _, _, hcell⟩ := HC.out k hlt
      have HE : Hid (mixN (h ^^^ u64N (xs.getD k 0)) = stateN 0 (xs.take (k + 1))) := Lib.hid (by rw [HS.out k hlt, HH.out])
      have hw := u64N_wrap (xs.getD k 0)
      have hu := u64N_lt (xs.getD k 0)
      clear HH
      generalize xs.getD k 0 = x at hcell HE hw hu
      generalize u64N x = u at HE hw hu
      have hx := u64_xor_nat h u hh hu
      have HM := Lib.hid (mixR_any (h ^^^ u) wr (Nat.xor_lt_two_pow (n := 64) hh hu))
      generalize h ^^^ u = z at hx HM HE
      generalize mixN z = z2 at HM HE
      go_wp2_with fail
      refine (HM.out).mono ?_
      rintro e w1 ⟨rfl, rfl⟩
      go_wp2_with fail
      go_roundw
      case rel => exact ⟨k + 1, z2, by go_num, by omega, rfl, HE, trivial⟩
      case measure => simp [intOf]; omega
    · have e : k = xs.length := by omega
      subst e
      have hr := HF.out
      rw [← HH.out] at hr
      have hw1 : IntKind.u64.wrap (xs.length : Int) = (xs.length : Int) := by rw [IntKind.wrap_u64]; omega
      have hw2 : IntKind.u64.wrap ((h : Int) + (xs.length : Int)) = (((h + xs.length) % 18446744073709551616 : Nat) : Int) := by rw [IntKind.wrap_u64]; omega
      have HM := Lib.hid (mixR_any ((h + xs.length) % 18446744073709551616) wr (Nat.mod_lt _ (by decide)))
      rw [← hr] at HM
      clear hr HS HL HF HC HH
      generalize (h + xs.length) % 18446744073709551616 = z at hw2 HM
      go_wp2_with fail
      refine (HM.out).mono ?_
      rintro e w1 ⟨rfl, rfl⟩
      go_wp2
      go_ret
      exact ⟨rfl, rfl⟩
/-- The bytes of a text, as numbers. -/
def bytesL (l : List UInt8) : List Int := l.map fun c => (c.toNat : Int)
theorem bytes_snoc (s : ByteArray) (k : Nat) (h : k < s.size) : bytesL (s.data.toList.take (k + 1)) = bytesL (s.data.toList.take k) ++ [((s[k]).toNat : Int)] := by
  unfold bytesL
  rw [List.take_succ_eq_append_getElem (by simpa using h), List.map_append]
  rfl
set_option maxHeartbeats 1000000 in
theorem textR_any (s : ByteArray) (w : World) (hs : s.size ≤ 1000000) :
    Calls Try.prog 13 #[.string s] w fun e w' => e = .returned (.int .u64 (intsN (bytesL s.data.toList) : Nat)) ∧ Below w.heap.size w w' := by
  have HS : Hid (∀ k (h : k < s.size), bytesL (s.data.toList.take (k + 1)) = bytesL (s.data.toList.take k) ++ [((s[k]).toNat : Int)]) := Lib.hid (bytes_snoc s)
  have HF : Hid (bytesL (s.data.toList.take s.size) = bytesL s.data.toList) := Lib.hid (by
    have : s.data.toList.length = s.size := by simp
    rw [← this, List.take_length])
  have HN := Lib.hid (OwnI.nil w.heap.size w)
  have HB0 := Lib.hid (Below.refl w.heap.size w)
  go_enter Try.func13, Try.ntmps13
  go_wp2
  go_loopw [3, 4] (fun s3 s4 wr => ∃ (k : Nat) (zs : List Int), s4 = .int .i64 (k : Int) ∧ k ≤ s.size ∧ zs.length = k ∧ Hid (zs = bytesL (s.data.toList.take k)) ∧ Hid (OwnI w.heap.size wr s3 zs) ∧ Hid (Below w.heap.size w wr)) (fun _ s4 _ => s.size - (intOf s4).toNat)
  case atStart => exact ⟨0, [], rfl, Nat.zero_le _, rfl, Lib.hid rfl, HN, HB0⟩
  case round =>
    obtain ⟨k, zs, rfl, hk, hzl, HZ, HO, HB⟩ := hrel
    have HZL := Lib.hid hzl
    have hz2 : zs.length ≤ 1000000 := by omega
    clear hzl
    by_cases hlt : k < s.size
    · have HZ2 : Hid (zs ++ [((s[k]).toNat : Int)] = bytesL (s.data.toList.take (k + 1))) := Lib.hid (by rw [HS.out k hlt, ← HZ.out])
      have hb2 : s[k].toNat < 256 := s[k].toNat_lt
      clear HZ
      go_wp2_with (at_builtin; refine append_int rfl (.tmp 11) (.tmp 16) rfl HB.out HO.out rfl rfl hz2 ?_; intro v' w2 ho hb)
      have HO2 := Lib.hid ho
      have HB2 := Lib.hid hb
      clear ho hb
      go_wp2_with fail
      go_roundw
      case rel => exact ⟨k + 1, _, by go_num, by omega, by rw [List.length_append, HZL.out]; rfl, HZ2, HO2, HB2⟩
      case measure => simp [intOf]; omega
    · have e : k = s.size := by omega
      subst e
      have hz := HZ.out
      rw [HF.out] at hz
      subst hz
      have HM := Lib.hid (intsR_any wr (HO.out.ints (by omega)))
      clear HS HF HZ HZL HN
      go_wp2_with fail
      refine (HM.out).mono ?_
      rintro e w1 ⟨rfl, rfl⟩
      go_wp2
      go_ret
      exact ⟨rfl, HB.out⟩
end Go.Proofs.Ytjipompbpnebjaa.Mx
