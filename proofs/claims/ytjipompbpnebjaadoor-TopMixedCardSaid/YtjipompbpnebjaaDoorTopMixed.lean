/-
  Proved: whatever list is handed in, TopMixed returns true: the words of numbers, read one by one, are these numbers, if they are 0 to MaxNum; and have the mix of them. No condition; the library's tables are as their texts lay them.
-/
import Derived.Test.YtjipompbpnebjaaDoorNuDoor
import Derived.Test.YtjipompbpnebjaaDoorMix3
import Derived.Test.YtjipompbpnebjaaDoorTmMath
namespace Go.Proofs.YtjipompbpnebjaaDoor.topMixed
open Go.ChangeShapes Go.WideShapes Go.ChangeAt Go.RowKit Base Nu Mx Lst
theorem state_one (h : Nat) (x : Int) : stateN h [x] = mixN (h ^^^ u64N x) := by unfold stateN; rw [List.foldl_cons, List.foldl_nil]
theorem ints1 : intsN [1] ≠ 0 := by
  have h0 : mixN 0 = 0 := by rw [mixN_eq]; decide +kernel
  have h1 : mixN 1 ≠ 18446744073709551615 := by rw [mixN_eq]; decide +kernel
  have hl := mixN_lt 1
  intro h
  have h2 : mixN ((mixN 1 + 1) % 18446744073709551616) = mixN 0 := by rw [h0]; exact h
  have h3 := mix_inj (Nat.mod_lt _ (by decide)) (by decide) h2
  omega
theorem ints0 : intsN [] = 0 := by
  show mixN ((0 + 0) % 18446744073709551616) = 0
  rw [mixN_eq]; decide +kernel
theorem words12 : wordsK [1, 2] 2 = [49, 32, 50] := by
  have e1 : Lib.itoa 1 = [49] := itoa_small (n := 1) (by decide)
  have e2 : Lib.itoa 2 = [50] := itoa_small (n := 2) (by decide)
  show ([] ++ Lib.itoa 1) ++ [32] ++ Lib.itoa 2 = _
  rw [e1, e2]; rfl
theorem ints_one (w : World) : Calls Tryd.prog 21 #[.slice (some ⟨w.heap.size, 0, none⟩) 1 1] (w.alloc (.cells #[.int .i64 1] 3)) (U64Post (intsN [1]) (w.alloc (.cells #[.int .i64 1] 3))) := by
  have hin : Ints w.heap.size (w.alloc (.cells #[.int .i64 1] 3)) (.slice (some ⟨w.heap.size, 0, none⟩) 1 1) [1] := lit_ints [1] w 3 #[.int .i64 1] rfl (by decide) 1 rfl
  have hin0 := hin.mono (Nat.zero_le w.heap.size)
  exact intsP_any _ hin0 (by decide)
/-- Block b is a sum of the first k, and what was there in W is as it was. -/
def SI (W w : World) (b : Nat) (xs : List Int) (k : Nat) : Prop := SumAt w b (stateN 0 (xs.take k)) k ∧ Below W.heap.size W w ∧ W.heap.size ≤ b
/-- Where the reader stands: in the k-th word, behind j of its bytes; or behind all. -/
def At (xs : List Int) (s : ByteArray) (k i : Nat) (b : ByteArray) : Prop :=
  (k < xs.length ∧ ∃ j, j ≤ (tok xs k).length ∧ i = offs xs k + j ∧ b.data.toList = (tok xs k).take j) ∨ (k = xs.length ∧ ((xs.length = 0 ∧ i = 0) ∨ i = s.size + 1) ∧ b.data.toList = [])
theorem At.start (xs : List Int) (s : ByteArray) : At xs s 0 0 ⟨#[]⟩ := by
  by_cases h : 0 < xs.length
  · exact .inl ⟨h, 0, Nat.zero_le _, rfl, rfl⟩
  · exact .inr ⟨by omega, .inl ⟨by omega, rfl⟩, rfl⟩
theorem At.mid {xs : List Int} {s : ByteArray} {k i : Nat} {b : ByteArray} (h : At xs s k i b) (hk : k < xs.length) (hS : s.data.toList = wordsK xs xs.length ∧ s.size = (wordsK xs xs.length).length) (hr : ∀ x ∈ xs, -9223372036854775808 ≤ x ∧ x ≤ 9223372036854775807) :
    (∃ hi : i < s.size, s[i] ≠ 32 ∧ b.size ≤ 20 ∧ At xs s k (i + 1) (b ++ s.extract i (i + 1))) ∨
    (b.data.toList = tok xs k ∧ ((∃ hi : i < s.size, s[i] = 32) ∨ i = s.size) ∧ At xs s (k + 1) (i + 1) ⟨#[]⟩) := by
  rcases h with ⟨_, j, hj, hi, hb⟩ | ⟨h, _⟩
  · have hmem : xs.getD k 0 ∈ xs := by
      rw [List.getD_eq_getElem?_getD, List.getElem?_eq_getElem hk]
      exact List.getElem_mem _
    have ht : (tok xs k).length ≤ 20 := itoa_len (hr _ hmem).1 (hr _ hmem).2
    have get : ∀ (i : Nat) (c : UInt8), (wordsK xs xs.length)[i]? = some c → ∃ hi : i < s.size, s[i] = c := fun i c he => by
      have hi : i < s.size := by
        rw [hS.2]
        rcases Nat.lt_or_ge i (wordsK xs xs.length).length with h1 | h1
        · exact h1
        · rw [List.getElem?_eq_none h1] at he; cases he
      refine ⟨hi, ?_⟩
      rw [← hS.1, List.getElem?_eq_getElem (by simpa using hi)] at he
      exact Option.some.inj he
    by_cases hlt : j < (tok xs k).length
    · obtain ⟨h1, h2⟩ := get i _ (hi ▸ tok_at xs xs.length k j hk hlt)
      refine .inl ⟨h1, h2 ▸ tok_byte xs k j hlt, ?_, .inl ⟨hk, j + 1, hlt, by omega, ?_⟩⟩
      · have : b.size = b.data.toList.length := by simp
        rw [this, hb, List.length_take]
        omega
      · have h3 : (s.extract i (i + 1)).data.toList = [s[i]] := by
          rw [Lib.extract_data, show i + 1 - i = 1 by omega, List.take_one, List.head?_drop, List.getElem?_eq_getElem (by simpa using h1)]
          rfl
        have h4 : (b ++ s.extract i (i + 1)).data.toList = b.data.toList ++ (s.extract i (i + 1)).data.toList := by simp
        rw [h4, h3, hb, h2, List.take_succ_eq_append_getElem hlt]
    · obtain rfl : j = (tok xs k).length := by omega
      refine .inr ⟨by rw [hb, List.take_length], ?_, ?_⟩
      · by_cases h1 : k + 1 < xs.length
        · exact .inl (get i _ (hi ▸ blank_at xs xs.length k h1))
        · refine .inr ?_
          rw [hS.2, show xs.length = k + 1 by omega, words_len, hi]
      · by_cases h1 : k + 1 < xs.length
        · exact .inl ⟨h1, 0, Nat.zero_le _, by rw [offs_succ, hi, Nat.add_zero], rfl⟩
        · refine .inr ⟨by omega, .inr ?_, rfl⟩
          rw [hS.2, show xs.length = k + 1 by omega, words_len, hi]
  · omega
theorem add_one {W w : World} {b k : Nat} {xs : List Int} (h : SI W w b xs k) (hk : k < xs.length) (hl : xs.length ≤ 60) :
    Calls Tryd.prog 23 #[.pointer (some ⟨b, 0, none⟩), .slice (some ⟨w.heap.size, 0, none⟩) 1 1] (w.alloc (.cells #[.int .i64 (xs.getD k 0)] 3))
      fun e w' => e = .returned (.tuple #[]) ∧ SI W w' b xs (k + 1) := by
  have hs : stateN (stateN 0 (xs.take k)) [xs.getD k 0] = stateN 0 (xs.take (k + 1)) := by rw [stateN_snoc hk, state_one]
  have hin := lit_ints [xs.getD k 0] w 3 #[.int .i64 (xs.getD k 0)] rfl (by simp) 1 rfl
  have hb2 : Below w.heap.size w (w.alloc (.cells #[.int .i64 (xs.getD k 0)] 3)) := (Below.refl _ _).alloc (Nat.le_refl _) _
  refine (add_any (w.alloc (.cells #[.int .i64 (xs.getD k 0)] 3)) b _ k _ hin (Below.refl _ _) (.inr (heap_lt h.1.1)) (h.1.below hb2) (by simp; omega)).mono ?_
  rintro e w' ⟨rfl, h1, h2⟩
  rw [hs] at h1
  exact ⟨rfl, h1, below_grown (h.2.1.trans (hb2.mono h.2.1.size)) (Nat.le_refl _) h2 h.2.2, h.2.2⟩
set_option maxHeartbeats 4000000 in
set_option maxRecDepth 100000 in
theorem walk (v : Value) (xs : List Int) (w : World) (hl : Ints 0 w v xs) (hr : ∀ x ∈ xs, -9223372036854775808 ≤ x ∧ x ≤ 9223372036854775807) (hp : Pow w) :
    Calls Tryd.prog 7 #[v] w (TruePost w) := by
  obtain ⟨p, c, rfl, hll, hcs⟩ := hl.open_
  have HI := Lib.hid hl
  have HR := Lib.hid hr
  have HP := Lib.hid hp
  have HC := Lib.hid hcs
  clear hl hr hp hcs
  have C1 : Hid (∀ w, Calls Tryd.prog 20 #[.int .u64 9] w fun e w' => e = .returned (.int .u64 (unmixN 9 : Nat)) ∧ w = w') := Lib.hid fun w => unmixP_any 9 w (by decide)
  have C2 : Hid (∀ w, Calls Tryd.prog 19 #[.int .u64 (unmixN 9 : Nat)] w fun e w' => e = .returned (.int .u64 9) ∧ w = w') := Lib.hid fun w => by
    have h := mixP_any (unmixN 9) w (unmixN_lt 9)
    rwa [mix_unmix (by decide)] at h
  have C3 : Hid (Calls Tryd.prog 13 #[.slice (some ⟨w.heap.size, 0, none⟩) 2 2] (w.alloc (.cells #[.int .i64 1, .int .i64 2] 3)) (TextPost [49, 32, 50] (w.alloc (.cells #[.int .i64 1, .int .i64 2] 3)))) := Lib.hid (by
    have h := words_any (w.alloc (.cells #[.int .i64 1, .int .i64 2] 3)) (lit_ints [1, 2] w 3 _ rfl (by decide) 2 rfl) (by decide) (by decide) (HP.out.below ((Below.refl _ _).alloc (Nat.le_refl _) _))
    rwa [show wordsK [1, 2] ([1, 2] : List Int).length = _ from words12] at h)
  have C4 : Hid (∀ w : World, Calls Tryd.prog 21 #[.slice (some ⟨w.heap.size, 0, none⟩) 1 1] (w.alloc (.cells #[.int .i64 1] 3)) (U64Post (intsN [1]) (w.alloc (.cells #[.int .i64 1] 3)))) := Lib.hid ints_one
  have C5 : Hid (∀ w, Calls Tryd.prog 21 #[.slice none 0 0] w (U64Post 0 w)) := Lib.hid fun w => by
    have h := intsP_any (xs := []) (v := .slice none 0 0) w Ints.nil (by decide)
    rwa [ints0] at h
  have hne : ((intsN [1] : Nat) : Int) ≠ 0 := by have := ints1; omega
  have hneb : (((intsN [1] : Nat) : Int) == 0) = false := by rw [beq_eq_false_iff_ne]; exact hne
  clear hne
  generalize unmixN 9 = u at C1 C2
  generalize intsN [1] = m at C4 hneb
  go_enter Tryd.func7, Tryd.ntmps7
  go_wp2_with fail
  refine (C1.out _).mono ?_
  rintro e wx ⟨rfl, rfl⟩
  go_wp2_with fail
  refine (C2.out _).mono ?_
  rintro e wx ⟨rfl, rfl⟩
  go_wp2_with fail
  refine (C3.out).mono ?_
  rintro e w1 ⟨rfl, hb⟩
  have B1 := Lib.hid (((Below.refl _ w).alloc (Nat.le_refl _) (.cells #[.int .i64 1, .int .i64 2] 3)).trans (hb.mono (by simp)))
  clear hb C1 C2 C3
  go_wp2_with fail
  refine (C4.out _).mono ?_
  rintro e w2 ⟨rfl, hb⟩
  have B2 := Lib.hid ((B1.out.alloc B1.out.size (.cells #[.int .i64 1] 3)).trans (hb.mono (by have := B1.out.size; simp; omega)))
  clear hb C4 B1
  go_wp2_with fail
  refine (C5.out _).mono ?_
  rintro e w3 ⟨rfl, hb⟩
  have B3 := Lib.hid (B2.out.trans (hb.mono B2.out.size))
  clear hb C5 B2
  by_cases h60 : 60 < xs.length
  · go_wp2
    go_ret
    exact ⟨rfl, B3.out⟩
  have h60' : xs.length ≤ 60 := by omega
  clear h60
  have CW := Lib.hid (words_any w3 (HI.out.below B3.out) HR.out (by omega) (HP.out.below B3.out))
  obtain ⟨s, hs⟩ : ∃ s : ByteArray, s = ⟨(wordsK xs xs.length).toArray⟩ := ⟨_, rfl⟩
  have hsl : s.data.toList = wordsK xs xs.length := by rw [hs]
  have CW2 : Hid (Calls Tryd.prog 13 #[.slice p xs.length c] w3 fun e w' => e = .returned (.string s) ∧ Below w3.heap.size w3 w') := by rw [hs]; exact CW
  have hss : s.size = (wordsK xs xs.length).length := by rw [← hsl]; simp
  have hsm : s.size ≤ 21 * xs.length := by rw [hss]; exact wordsK_len HR.out xs.length (Nat.le_refl _)
  have hbig : s.size ≤ 1260 := by omega
  have HSL := Lib.hid (And.intro hsl hss)
  clear hs hsl hss hsm CW
  go_wp2_with fail
  refine (CW2.out).mono ?_
  rintro e w4 ⟨rfl, hb⟩
  have B4 := Lib.hid (B3.out.trans (hb.mono B3.out.size))
  clear hb B3 CW2 hneb
  go_wp2_with fail
  refine (new_any _).mono ?_
  rintro e w5 ⟨rfl, hS, hb⟩
  have I0 : Hid (SI w4 w5 w4.heap.size xs 0) := Lib.hid ⟨hS, hb, Nat.le_refl _⟩
  have PW : Hid (Pow w4) := Lib.hid (HP.out.below B4.out)
  clear hS hb
  go_wp2_with fail
  go_loopw [5, 6, 7] (fun s5 s6 s7 wr => ∃ (k i : Nat) (b : ByteArray), s7 = .int .i64 (i : Int) ∧ s6 = .int .i64 (k : Int) ∧ s5 = .string b ∧ k ≤ xs.length ∧ i ≤ s.size + 1 ∧ Hid (At xs s k i b) ∧ Hid (SI w4 wr w4.heap.size xs k)) (fun _ _ s7 _ => s.size + 1 - (intOf s7).toNat)
  case atStart => exact ⟨0, 0, ⟨#[]⟩, rfl, rfl, rfl, Nat.zero_le _, Nat.zero_le _, Lib.hid (At.start xs s), I0⟩
  case round =>
    clear I0
    obtain ⟨k, i, b, rfl, rfl, rfl, hk, hi, HA, HI5⟩ := hrel
    by_cases hend : k = xs.length
    · subst hend
      have hcond : ((xs.length = 0 ∧ i = 0) ∨ i = s.size + 1) := by
        rcases HA.out with ⟨h, _⟩ | ⟨_, h, _⟩
        · exact absurd h (by omega)
        · exact h
      have HV : Hid (Calls Tryd.prog 24 #[.pointer (some ⟨w4.heap.size, 0, none⟩)] wr (ValPost (intsN xs) wr)) := Lib.hid (by
        have h := value_any _ _ _ wr HI5.out.1
        rw [List.take_length] at h
        exact h)
      have HN : Hid (∀ q : Nat, Calls Tryd.prog 21 #[.slice p xs.length c] (wr.drewN q) (U64Post (intsN xs) (wr.drewN q))) := Lib.hid fun q => intsP_any (wr.drewN q) (HI.out.below (below_drewN (B4.out.trans (HI5.out.2.1.mono B4.out.size)) q)) (by omega)
      have HLE : Hid (∀ (q : Nat) (w' : World), Below (wr.drewN q).heap.size (wr.drewN q) w' → Calls Tryd.prog 25 #[.pointer (some ⟨w4.heap.size, 0, none⟩)] w' fun e w'' => e = .returned (.int .i64 (xs.length : Int)) ∧ w' = w'') := Lib.hid fun q w' h => len_any _ _ _ w' (SumAt.below (w := wr.drewN q) HI5.out.1 h)
      have HBB : Hid (∀ (q : Nat) (w' : World), Below (wr.drewN q).heap.size (wr.drewN q) w' → Below w.heap.size w w') := Lib.hid fun q w' h => (below_drewN (B4.out.trans (HI5.out.2.1.mono B4.out.size)) q).trans (h.mono (below_drewN (B4.out.trans (HI5.out.2.1.mono B4.out.size)) q).size)
      generalize intsN xs = r at HV HN
      rcases hcond with h0 | h0
      · have hd2 : i ≤ s.size := by omega
        have hd : ¬ 0 < xs.length := by omega
        clear h0
        go_wp2_with fail
        refine (HV.out).mono ?_
        rintro e w6 ⟨rfl, q, rfl⟩
        go_wp2_with fail
        refine (HN.out q).mono ?_
        rintro e w7 ⟨rfl, hb⟩
        have HB7 := Lib.hid hb
        clear hb
        go_wp2_with fail
        refine (HLE.out q w7 HB7.out).mono ?_
        rintro e w8 ⟨rfl, rfl⟩
        go_wp2
        go_ret
        exact ⟨rfl, HBB.out q _ HB7.out⟩
      · have hd : ¬ i ≤ s.size := by omega
        clear h0
        go_wp2_with fail
        refine (HV.out).mono ?_
        rintro e w6 ⟨rfl, q, rfl⟩
        go_wp2_with fail
        refine (HN.out q).mono ?_
        rintro e w7 ⟨rfl, hb⟩
        have HB7 := Lib.hid hb
        clear hb
        go_wp2_with fail
        refine (HLE.out q w7 HB7.out).mono ?_
        rintro e w8 ⟨rfl, rfl⟩
        go_wp2
        go_ret
        exact ⟨rfl, HBB.out q _ HB7.out⟩
    · have hlt : k < xs.length := by omega
      clear hend
      rcases HA.out.mid hlt HSL.out HR.out with ⟨h1, h2, h3, h4⟩ | ⟨h1, h2, h3⟩
      · have hb2 : s[i].toNat < 256 := s[i].toNat_lt
        have hne : ((s[i].toNat : Int) != 32) = true := by
          rw [bne_iff_ne]
          intro e
          exact h2 (UInt8.toNat_inj.1 (by rw [show (32 : UInt8).toNat = 32 from rfl]; omega))
        have HA2 := Lib.hid h4
        clear h2 h4 HA
        go_wp2_with fail
        go_roundw
        case rel => exact ⟨k, i + 1, _, by go_num, rfl, rfl, by omega, by omega, HA2, HI5⟩
        case measure => simp [intOf]; omega
      · have HA2 := Lib.hid h3
        have hmem : xs.getD k 0 ∈ xs := by
          rw [List.getD_eq_getElem?_getD, List.getElem?_eq_getElem hlt]
          exact List.getElem_mem _
        have hrx := HR.out _ hmem
        obtain ⟨g', o', rfl, _, hg, hcell0⟩ := HC.out k hlt
        have hcell := ((B4.out.trans (HI5.out.2.1.mono B4.out.size)).cell (p := ⟨g', o' + k, none⟩) hg).trans hcell0
        have hts : b.size ≤ 20 := by
          have h5 : b.size = b.data.toList.length := by simp
          rw [h5, h1]
          exact itoa_len hrx.1 hrx.2
        have HAD := Lib.hid (add_one HI5.out hlt h60')
        have hrd : ∀ w, Calls Tryd.prog 9 #[.string b] w fun e w' => e = .returned (.tuple #[.int .i64 (if 0 ≤ xs.getD k 0 ∧ xs.getD k 0 ≤ 2147483647 then (xs.getD k 0, (0 : Int)) else if xs.getD k 0 < 0 then (0, 10) else (0, 1)).1, .int .i64 (if 0 ≤ xs.getD k 0 ∧ xs.getD k 0 ≤ 2147483647 then (xs.getD k 0, (0 : Int)) else if xs.getD k 0 < 0 then (0, 10) else (0, 1)).2]) ∧ w = w' := fun w => by
          have h := read_any b w (by omega)
          rw [h1, show tok xs k = Lib.itoa (xs.getD k 0) from rfl, read_itoa] at h
          exact h
        have HRD := Lib.hid hrd
        clear h1 h3 hmem hcell0 hg hrd HA
        have hx0 := hrx.1
        have hx1 := hrx.2
        clear hrx
        generalize xs.getD k 0 = x at hcell HAD HRD hx0 hx1
        rcases h2 with ⟨hi2, h2⟩ | h2
        · have hne : ((s[i].toNat : Int) != 32) = false := by rw [h2]; decide
          have hb2 : s[i].toNat < 256 := s[i].toNat_lt
          clear h2
          by_cases hx2 : x < 0
          · have hx3 : ¬ 0 ≤ x := by omega
            have HRW := Lib.hid HRD.out
            rw [if_neg (fun h => hx3 h.1), if_pos hx2] at HRW
            clear HRD
            go_wp2_with fail
            refine (HRW.out _).mono ?_
            rintro e wx ⟨rfl, rfl⟩
            go_wp2_with fail
            refine (HAD.out).mono ?_
            rintro e w6 ⟨rfl, hS⟩
            have HI6 := Lib.hid hS
            clear hS HAD HI5
            go_wp2_with fail
            go_roundw
            case rel => exact ⟨k + 1, i + 1, ⟨#[]⟩, by go_num, by go_num, rfl, by omega, by omega, HA2, HI6⟩
            case measure => simp [intOf]; omega
          · have hx3 : 0 ≤ x := by omega
            clear hx2
            by_cases hx4 : x ≤ 2147483647
            · have HRW := Lib.hid HRD.out
              rw [if_pos ⟨hx3, hx4⟩] at HRW
              clear HRD
              go_wp2_with fail
              refine (HRW.out _).mono ?_
              rintro e wx ⟨rfl, rfl⟩
              go_wp2_with fail
              refine (HAD.out).mono ?_
              rintro e w6 ⟨rfl, hS⟩
              have HI6 := Lib.hid hS
              clear hS HAD HI5
              go_wp2_with fail
              go_roundw
              case rel => exact ⟨k + 1, i + 1, ⟨#[]⟩, by go_num, by go_num, rfl, by omega, by omega, HA2, HI6⟩
              case measure => simp [intOf]; omega
            · have HRW := Lib.hid HRD.out
              rw [if_neg (fun h => hx4 h.2), if_neg (by omega)] at HRW
              clear HRD
              go_wp2_with fail
              refine (HRW.out _).mono ?_
              rintro e wx ⟨rfl, rfl⟩
              go_wp2_with fail
              refine (HAD.out).mono ?_
              rintro e w6 ⟨rfl, hS⟩
              have HI6 := Lib.hid hS
              clear hS HAD HI5
              go_wp2_with fail
              go_roundw
              case rel => exact ⟨k + 1, i + 1, ⟨#[]⟩, by go_num, by go_num, rfl, by omega, by omega, HA2, HI6⟩
              case measure => simp [intOf]; omega
        · have hi2 : ¬ i < s.size := by omega
          have hi3 : i ≤ s.size := by omega
          clear h2
          by_cases hx2 : x < 0
          · have hx3 : ¬ 0 ≤ x := by omega
            have HRW := Lib.hid HRD.out
            rw [if_neg (fun h => hx3 h.1), if_pos hx2] at HRW
            clear HRD
            go_wp2_with fail
            refine (HRW.out _).mono ?_
            rintro e wx ⟨rfl, rfl⟩
            go_wp2_with fail
            refine (HAD.out).mono ?_
            rintro e w6 ⟨rfl, hS⟩
            have HI6 := Lib.hid hS
            clear hS HAD HI5
            go_wp2_with fail
            go_roundw
            case rel => exact ⟨k + 1, i + 1, ⟨#[]⟩, by go_num, by go_num, rfl, by omega, by omega, HA2, HI6⟩
            case measure => simp [intOf]; omega
          · have hx3 : 0 ≤ x := by omega
            clear hx2
            by_cases hx4 : x ≤ 2147483647
            · have HRW := Lib.hid HRD.out
              rw [if_pos ⟨hx3, hx4⟩] at HRW
              clear HRD
              go_wp2_with fail
              refine (HRW.out _).mono ?_
              rintro e wx ⟨rfl, rfl⟩
              go_wp2_with fail
              refine (HAD.out).mono ?_
              rintro e w6 ⟨rfl, hS⟩
              have HI6 := Lib.hid hS
              clear hS HAD HI5
              go_wp2_with fail
              go_roundw
              case rel => exact ⟨k + 1, i + 1, ⟨#[]⟩, by go_num, by go_num, rfl, by omega, by omega, HA2, HI6⟩
              case measure => simp [intOf]; omega
            · have HRW := Lib.hid HRD.out
              rw [if_neg (fun h => hx4 h.2), if_neg (by omega)] at HRW
              clear HRD
              go_wp2_with fail
              refine (HRW.out _).mono ?_
              rintro e wx ⟨rfl, rfl⟩
              go_wp2_with fail
              refine (HAD.out).mono ?_
              rintro e w6 ⟨rfl, hS⟩
              have HI6 := Lib.hid hS
              clear hS HAD HI5
              go_wp2_with fail
              go_roundw
              case rel => exact ⟨k + 1, i + 1, ⟨#[]⟩, by go_num, by go_num, rfl, by omega, by omega, HA2, HI6⟩
              case measure => simp [intOf]; omega
theorem own : ownKnob Tryd.prog.godebug = none := by kernel_rfl
theorem laidOut : laidOutB Tryd.prog = true := by kernel_rfl
/-- What the walk gives, for every argument and every world that holds what is laid. -/
theorem contract (H : Type) (enc : TypeId × Value → H) (W : World) (base : Nat) (args : Array Value) (ds gs : List (DataW H)) (before : List MemPlace)
    (hval : ∀ (j : Nat) t v, Tryd.f7.params[j]? = some t → args[j]? = some v → Value.okWide Tryd.prog W .any base t v)
    (hW : DataW.Whole enc Tryd.prog Tryd.f7.params.toList Rows.topMixedSpec.vars false W args.toList ds gs before) (hL : laidMetH Tryd.prog Rows.topMixedRow.laid W) :
    Calls Tryd.prog 7 args W fun e W' => ∃ v, e = .returned v ∧ Rows.topMixedSpec.post enc Tryd.prog Tryd.f7 false true false false W args v W' := by
  have hW' := hW
  obtain ⟨p, q, hA0, hV, rfl, hfz, hnd⟩ := hW
  have hA : DataW.TrodAll enc Tryd.prog W 0 (fun _ => true) true Tryd.f7.params.toList args.toList ds p := hA0
  rw [Tryd.params7] at hA hval
  obtain ⟨v0, vs0, d0, ds0, p0, q0, hargs, rfl, rfl, r0, r0'⟩ := trodAll_cons hA
  obtain ⟨rfl, rfl, rfl⟩ := trodAll_nil r0'
  obtain rfl : args = #[v0] := by cases args; simp_all
  obtain ⟨rfl, rfl⟩ := trodVars_none hV
  have hlt : ∀ x ∈ p0 ++ ([]), x.block < W.heap.size := fun x hx => by simpa using hW'.lt x (by simpa using hx)
  have back0 : ∀ W', Below W.heap.size W W' → DataW.Trod enc Tryd.prog W' 0 (fun b => decide (b < W.heap.size)) true 22 v0 d0 p0 :=
    fun W' hn => Below.trod laidOut (by kernel_rfl) (of_decide_eq_true (by kernel_rfl)) r0 hn fun x hx => hlt x (by simp [hx])
  obtain ⟨l, cl, hl, bl⟩ := Lst.open_list (hval 0 22 v0 rfl rfl) r0
  refine (walk v0 l W hl bl (pow_of hL)).mono fun e W' ⟨he, hb⟩ => ?_
  subst he
  exact ⟨_, rfl, _, _, _, [], _, [], hW', trodAll_cons_mk (shut_bool Tryd.underlying4 _) trodAll_mk0, trodAll_cons_mk (back0 W' hb) trodAll_mk0, rfl, hb.frame _, fun h => by cases h⟩
def wargs : Array Value := #[.slice none 0 0]
theorem laid_met (os : Os) : laidMet Tryd.prog Rows.topMixedRow.laid ((laidWorld os).forCall (fun _ _ => 0) ⟨#[], wargs, []⟩).memory :=
  laidMet_of_run' 8 (by kernel_rfl) (by kernel_rfl)
theorem reads (os : Os) {H : Type} (enc : TypeId × Value → H) : ∃ places, DataW.whole enc Tryd.prog ((laidWorld os).forCall (fun _ _ => 0) ⟨#[], wargs, []⟩).memory Tryd.f7.params.toList Rows.topMixedSpec.vars false wargs.toList 8 = some ([.nil], [], places) :=
  ⟨[], by kernel_rfl⟩
set_option maxRecDepth 100000 in
theorem lifted (os : Os) (started : os.Started) (H : Type) (enc : TypeId × Value → H) (F : Stop.Interp) :
    ReturnsInHanded {} Tryd.checked os 7 .any ((OpenSpec.ofChange Rows.topMixedSpec).preRow enc Tryd.prog Tryd.f7 Rows.topMixedRow.domain false Rows.topMixedRow.laid) (((OpenSpec.ofChange Rows.topMixedSpec).at F).post enc Tryd.prog Tryd.f7 false true false false) := by
  obtain ⟨places, hx⟩ := reads os enc
  refine returnsInHanded_of_row (C := Tryd.checked) (s := OpenSpec.ofChange Rows.topMixedSpec) own started (by kernel_rfl) Tryd.func7
    (witness_row_at (enc := enc) (C := Tryd.checked) false (laidWorld os) wargs rfl (by kernel_rfl) (by kernel_rfl) (by kernel_rfl)
      (OpenSpec.preRow_of_cond 8 hx (by kernel_rfl) (fun k hk => by cases hk) (by kernel_rfl) (laid_met os))) ?_
  intro W base args ds gs before hval hW _ _ _ hL _ _
  exact contract H enc W base args ds gs before hval hW hL
theorem said : Rows.TopMixedSaid :=
  OpenClaim.holds_of_cond 7 Tryd.f7 rfl rfl rfl rfl rfl rfl rfl ⟨rfl, rfl, rfl, rfl, rfl⟩ rfl rfl rfl rfl rfl (by kernel_rfl) Tryd.func7 (by kernel_rfl)
    (of_decide_eq_true (by kernel_rfl)) (by unfold Func.isWrapper; first | (rw [if_pos (by decide +kernel)]; kernel_rfl) | (rw [if_neg (by decide +kernel)]; exact ⟨rfl, rfl⟩))
    (fun os started H enc _ F => by rw [OpenClaim.pre_eq_preRow]; exact lifted os started H enc F)
/-- No parameter wants a stand-in; the program's own looks are off. -/
theorem plain (f : FuncId) (fn : Func) (hf : Tryd.pinned.checked.prog.funcNamed "tenter/tentertop.TopMixed" = some f) (hfn : Tryd.pinned.checked.prog.funcs[f]? = some fn) :
    false = Tryd.pinned.checked.prog.looks [] ∧ ∀ (j : Nat) t, fn.params[j]? = some t → Tryd.pinned.checked.prog.wantsStandIn t = false := by
  obtain rfl : f = 7 := Option.some.inj ((show Tryd.prog.funcNamed "tenter/tentertop.TopMixed" = some 7 by kernel_rfl).symm.trans hf) |>.symm
  obtain rfl : fn = Tryd.f7 := (Option.some.inj (Tryd.func7.symm.trans hfn)).symm
  refine ⟨by kernel_rfl, fun j t ht => ?_⟩
  rw [Tryd.params7] at ht
  have hm : t = 22 := by have := Array.mem_of_getElem? ht; simp at this; omega
  subst hm
  exact (show Tryd.prog.wantsStandIn 22 = false by kernel_rfl)
/-- The card. -/
theorem proved : Rows.TopMixedCardSaid :=
  Claim7.holds_tied_plain_at .later [] _ _ _ _ said (fun _ h => by cases h) (by kernel_rfl) (fun _ h => by cases h) topMixed_row_tie rfl ⟨rfl, rfl⟩ (by kernel_rfl) rfl plain (by kernel_rfl)
#print axioms proved
end Go.Proofs.YtjipompbpnebjaaDoor.topMixed
