/-
  Contracts of small functions, several texts laid into one. Not a statement of the seat.
-/
import Derived.Test.YtmgkpabagpgilaaHead13
import Derived.Test.YtmgkpabagpgilaaMpG
import Derived.Test.YtmgkpabagpgilaaHead9
import Derived.Test.YtmgkpabagpgilaaHead11
import Derived.Test.YtmgkpabagpgilaaHead12
import Derived.Test.YtmgkpabagpgilaaHiS
import Derived.Test.YtmgkpabagpgilaaHead5
namespace Go.Proofs.Ytmgkpabagpgilaa.Hi
open Go.ChangeShapes Go.WideShapes Go.ChangeAt Go.RowKit Base F Tx Lst
theorem wrs_take (xs : List Txn) (k : Nat) (hk : k < xs.length) (x : Int) : wrsL (xs.take (k + 1)) x = wrsL (xs.take k) x ++ (if (xs.getD k Txn.zero).dn = true ∧ 0 < wrN (xs.getD k Txn.zero).ops x then [(xs.getD k Txn.zero).id] else []) := by
  rw [take_snoc xs Txn.zero k hk]
  unfold wrsL
  rw [List.filter_append, List.map_append]
  congr 1
  generalize xs.getD k Txn.zero = t
  by_cases h : t.dn = true ∧ 0 < wrN t.ops x
  · rw [if_pos h, List.filter_cons_of_pos (by simp [h.1, h.2])]; rfl
  · rw [if_neg h, List.filter_cons_of_neg (by simpa using h)]; rfl
theorem allK_take (xs : List Txn) (k : Nat) (hk : k < xs.length) (x : Int) : x ∈ allK (xs.take (k + 1)) ↔ x ∈ allK (xs.take k) ∨ ((xs.getD k Txn.zero).dn = true ∧ 0 < wrN (xs.getD k Txn.zero).ops x) := by
  rw [take_snoc xs Txn.zero k hk, mem_allK, mem_allK]
  constructor
  · rintro ⟨t, ht, h⟩
    rcases List.mem_append.1 ht with h1 | h1
    · exact .inl ⟨t, h1, h⟩
    · simp only [List.mem_singleton] at h1
      exact .inr (h1 ▸ h)
  · rintro (⟨t, ht, h⟩ | h)
    · exact ⟨t, List.mem_append_left _ ht, h⟩
    · exact ⟨_, List.mem_append_right _ (List.mem_singleton.2 rfl), h⟩
theorem nodup_addK {y : Int} {ks : List Int} (h : ks.Nodup) : (Mp.addK y ks).Nodup := by
  unfold Mp.addK
  split
  · exact h
  · rename_i hn
    exact List.nodup_append.2 ⟨h, by simp, fun a ha b hb e => by simp at hb; subst hb; exact hn (e ▸ ha)⟩
theorem mem_addK {x y : Int} {ks : List Int} : x ∈ Mp.addK y ks ↔ x = y ∨ x ∈ ks := by
  unfold Mp.addK
  split
  · rename_i h
    constructor
    · exact .inr
    · rintro (rfl | h2)
      · exact h
      · exact h2
  · rw [List.mem_append, List.mem_singleton]
    exact Or.comm
abbrev MW (W : World) (base b n : Nat) (ks : List Int) (f : Int → List Int) : Prop := Mp.MG Try.prog 3 3 W base b n ks f
/-- What writersOf leaves. -/
def WrP (xs : List Txn) (w : World) (e : Ending) (w' : World) : Prop := ∃ base b n ks, e = .returned (.map (some b)) ∧ n ≤ 100000 * 4096 ∧ w.heap.size ≤ b ∧ MW w' base b n ks (wrsL xs) ∧ ks.Nodup ∧ (∀ x, x ∈ ks ↔ x ∈ allK xs) ∧ Aft w w'
theorem zeroSl (w : World) : (zeroValue 41).run Try.prog w = .ok (.slice none 0 0) w := by kernel_rfl
/-- On the way, between two transactions. -/
def WO (w wr : World) (xs : List Txn) (k : Nat) : Prop := ∃ n ks, n ≤ 100000 * k ∧ MW wr (w.heap.size + 1) w.heap.size n ks (wrsL (xs.take k)) ∧ ks.Nodup ∧ (∀ x, x ∈ ks ↔ x ∈ allK (xs.take k)) ∧ Aft w wr
/-- On the way, among the keys of one. -/
def WI2 (w wA wr : World) (xs : List Txn) (k j : Nat) (ti : Int) (bx : Obj) (vK : Value) (K : List Int) : Prop :=
  ∃ n ks, n ≤ 100000 * k + j ∧ MW wr (w.heap.size + 1) w.heap.size n ks (fun x => wrsL (xs.take k) x ++ (if x ∈ K.take j then [ti] else [])) ∧ ks.Nodup ∧ (∀ x, x ∈ ks ↔ x ∈ allK (xs.take k) ∨ x ∈ K.take j) ∧ Aft w wr ∧
    wr.heap[wA.heap.size]? = some bx ∧ OwnI (wA.heap.size + 1) wr vK K ∧ wr.Shuns w.heap.size (fun g => g = wA.heap.size ∨ vK.ownBlock = some g)
theorem rises_new : ∀ {K : List Int}, Rises K → ∀ {j : Nat}, j < K.length → K.getD j 0 ∉ K.take j
  | x :: K, h, 0, _ => by simp
  | x :: K, h, j + 1, hj => by
    obtain ⟨h1, h2⟩ := List.pairwise_cons.1 h
    have hj' : j < K.length := by simpa using hj
    have hm : K.getD j 0 ∈ K := getD_memV hj'
    have := h1 _ hm
    have ih := rises_new h2 hj'
    rw [List.take_succ_cons, List.getD_cons_succ]
    intro e
    rcases List.mem_cons.1 e with e | e
    · omega
    · exact ih e
theorem wrs_len (xs : List Txn) (x : Int) : (wrsL xs x).length ≤ xs.length := by
  unfold wrsL
  rw [List.length_map]
  exact List.length_filter_le _ _
/-- A key's round: what a store leaves. -/
theorem WI2.next {w wA wr w1 w2 : World} {xs : List Txn} {k j : Nat} {ti y : Int} {bx o : Obj} {vK v v' : Value} {K : List Int} {n : Nat} {ks : List Int} (hj : j < K.length) (hy : K.getD j 0 = y) (hn : n ≤ 100000 * k + j) (hnew : y ∉ K.take j)
    (hnd : ks.Nodup) (hmem : ∀ x, x ∈ ks ↔ x ∈ allK (xs.take k) ∨ x ∈ K.take j) (ha : Aft w wr) (hbx : wr.heap[wA.heap.size]? = some bx) (hK : OwnI (wA.heap.size + 1) wr vK K) (hsh : wr.Shuns w.heap.size (fun g => g = wA.heap.size ∨ vK.ownBlock = some g)) (hA : w.heap.size < wA.heap.size)
    (hv : ∀ g, v.ownBlock = some g → ¬ (g = wA.heap.size ∨ vK.ownBlock = some g)) (hvb : ∀ g, v.ownBlock = some g → w.heap.size + 1 ≤ g) (hg1 : (wr.alloc o).grownBy w1 v.ownBlock) (hloc : v'.ownBlock = v.ownBlock ∨ v'.ownBlock = some (wr.alloc o).heap.size)
    (hm : MW w2 (w.heap.size + 1) w.heap.size (n + 1) (Mp.addK y ks) (fun x => if x = y then (wrsL (xs.take k) y ++ (if y ∈ K.take j then [ti] else [])) ++ [ti] else wrsL (xs.take k) x ++ (if x ∈ K.take j then [ti] else []))) (hg2 : w1.grownBy w2 (some w.heap.size))
    (hsh2 : ∀ No : Nat → Prop, wr.Shuns w.heap.size No → (∀ g, v'.ownBlock = some g → ¬ No g) → w2.Shuns w.heap.size No) : WI2 w wA w2 xs k (j + 1) ti bx vK K := by
  have htk : K.take (j + 1) = K.take j ++ [y] := by rw [take_snoc K 0 j hj, hy]
  have hKb := fun g (hg : vK.ownBlock = some g) => hK.lt g hg
  refine ⟨n + 1, Mp.addK y ks, by omega, Mp.MG.ext hm rfl fun x => ?_, nodup_addK hnd, fun x => ?_, ?_, ?_, ?_, ?_⟩
  · rw [htk]
    by_cases e : x = y
    · subst e
      simp [hnew]
    · simp [e]
  · rw [mem_addK, hmem, htk, List.mem_append, List.mem_singleton]
    constructor
    · rintro (h | h | h)
      · exact .inr (.inr h)
      · exact .inl h
      · exact .inr (.inl h)
    · rintro (h | h | h)
      · exact .inr (.inl h)
      · exact .inr (.inr h)
      · exact .inl h
  · exact Below.grown (Below.grown (ha.lay o) hg1 (ha.lay o).size (fun q hq => by have := hvb q hq; omega)) hg2 (Below.grown (ha.lay o) hg1 (ha.lay o).size (fun q hq => by have := hvb q hq; omega)).size (fun q hq => by injection hq with hq; omega)
  · have e1 : (wr.alloc o).heap[wA.heap.size]? = some bx := heap_alloc_lt _ _ _ _ hbx
    have e2 : w1.heap[wA.heap.size]? = some bx := (hg1.block _ (heap_lt e1) (fun e => hv _ e.symm (.inl rfl))).trans e1
    exact (hg2.block _ (heap_lt e2) (fun e => by injection e with e; omega)).trans e2
  · have e1 : OwnI (wA.heap.size + 1) (wr.alloc o) vK K := hK.lay rfl o
    have e2 : OwnI (wA.heap.size + 1) w1 vK K := World.ownsRow.kept e1 hg1 (by
      cases hb : vK.ownBlock with
      | none => exact .inl rfl
      | some g => exact .inr fun e => hv g e.symm (.inr hb))
    exact World.ownsRow.kept e2 hg2 (by
      cases hb : vK.ownBlock with
      | none => exact .inl rfl
      | some g => exact .inr fun e => by injection e with e; have := (hKb g hb).1; omega)
  · refine hsh2 _ hsh fun g hg => ?_
    rcases hloc with h | h
    · rw [h] at hg
      exact hv g hg
    · rw [h] at hg
      injection hg with hg
      rintro (h2 | h2)
      · have := heap_lt hbx
        simp at hg
        omega
      · have := (hKb g h2).2
        simp at hg
        omega
set_option maxRecDepth 100000 in
set_option maxHeartbeats 8000000 in
theorem writersOf_any {v : Value} {xs : List Txn} (w : World) (h : Txs w v xs) (hok : ∀ t ∈ xs, Txn.ok t) (hx : xs.length ≤ 4096) (hl : ∀ t ∈ xs, t.ops.length ≤ 100000) : Calls Try.prog 20 #[v] w (WrP xs w) := by
  have hmm := @run_makeMap Try.prog
  obtain ⟨p, c, rfl, _, hlm⟩ := h.form
  have HT := Lib.hid h
  have HOK := Lib.hid hok
  have HL := Lib.hid hl
  have HX := Lib.hid hx
  have HS0 : Hid (WO w (w.alloc (.map #[] 0)) xs 0) := Lib.hid ⟨0, [], by omega, Mp.MG.ext (Mp.MG.made _ _ _ _) rfl (fun x => by simp [wrsL]), by simp, fun x => by simp [allK], Aft.one _⟩
  clear h hok hl hx
  go_enter Try.func20, Try.ntmps20
  go_wp2_with fail
  clear hmm
  go_loopw [11] (fun s11 wr => ∃ k : Nat, s11 = .int .i64 (k : Int) ∧ k ≤ xs.length ∧ Hid (WO w wr xs k)) (fun s11 _ => xs.length - (intOf s11).toNat)
  case atStart => exact ⟨0, rfl, Nat.zero_le _, HS0⟩
  case round =>
    clear HS0
    obtain ⟨k, rfl, hk, HS⟩ := hrel
    obtain ⟨wA, hwA⟩ : ∃ wA, wA = wr := ⟨_, rfl⟩
    subst hwA
    by_cases hlt : k < xs.length
    · have HA : Hid (Aft w wA) := Lib.hid (by obtain ⟨_, _, _, _, _, _, h⟩ := HS.out; exact h)
      obtain ⟨g, o, sp, sc, rfl, hg, c0, c1, c2, hs⟩ := HT.out.at_ hlt
      have c0 := HA.out.cell hg c0
      have c1 := HA.out.cell hg c1
      have c2 := HA.out.cell hg c2
      have hg := Nat.lt_of_lt_of_le hg HA.out.size
      have HTW := Lib.hid (fun x => wrs_take xs k hlt x)
      have HTK := Lib.hid (fun x => allK_take xs k hlt x)
      have HLK := Lib.hid (HL.out _ (getD_mem hlt))
      have HOKK := Lib.hid (HOK.out _ (getD_mem hlt))
      have hk4 : k ≤ 4096 := by have := HX.out; omega
      have hkI : (k : Int) < (xs.length : Int) := by omega
      generalize xs.getD k Txn.zero = t at c0 c1 c2 hs HTW HTK HLK HOKK
      obtain ⟨ti, td, tl⟩ := t
      simp only at c0 c1 c2 hs HTW HTK HLK HOKK
      have HOP := Lib.hid (hs.below HA.out).2
      clear hs HT HOK HL HX
      obtain ⟨X, hX⟩ : ∃ X, X = wA.alloc (boxT ti td (.slice sp tl.length sc)) := ⟨_, rfl⟩
      have HAX : Hid (Aft wA X) := Lib.hid (by rw [hX]; exact Aft.one _)
      have HBX : Hid (X.heap[wA.heap.size]? = some (boxT ti td (.slice sp tl.length sc))) := Lib.hid (by rw [hX]; exact heap_alloc_at _ _ _ rfl)
      have HXS : Hid (X.heap.size = wA.heap.size + 1) := Lib.hid (by rw [hX]; simp)
      cases td with
      | false =>
        have HR : Hid (WO w X xs (k + 1)) := Lib.hid (by
          obtain ⟨n, ks, h1, h2, h3, h4, h5⟩ := HS.out
          exact ⟨n, ks, by omega, Mp.MG.ext (h2.below HAX.out) rfl (fun x => by rw [HTW.out]; simp), h3, fun x => by rw [HTK.out, h4]; simp, h5.trans HAX.out⟩)
        clear HS HTW HTK HLK HOKK HOP HAX HBX HXS
        unfold boxT at hX
        generalize tl.length = tn at c2 hX
        subst hX
        go_wp2_with fail
        go_roundw
        case rel => exact ⟨k + 1, by go_num, hlt, HR⟩
        case measure => simp [intOf]; omega
      | true =>
        have HKE := Lib.hid (keys_any ti true X (HOP.out.below HAX.out) HLK.out)
        have HKB : Hid (∀ y ∈ keysO (bareL tl), -9223372036854775808 ≤ y ∧ y ≤ 9223372036854775807) := Lib.hid fun y hy => by
          obtain ⟨x, hx, rfl⟩ := List.mem_map.1 (mem_keysL.1 hy)
          exact (HOKK.out.2 x (List.mem_filter.1 hx).1).1
        have HKR : Hid (Rises (keysO (bareL tl))) := Lib.hid (keysL_rises _)
        have HKM : Hid (∀ x, x ∈ keysO (bareL tl) ↔ 0 < wrN tl x) := Lib.hid fun x => by rw [wrN_pos]; exact mem_keysL
        have HKL : Hid ((keysO (bareL tl)).length ≤ 100000) := Lib.hid (Nat.le_trans (keysL_len _) (by rw [List.length_map]; exact Nat.le_trans (bareL_len tl) HLK.out))
        have HTI : Hid (-9223372036854775808 ≤ ti ∧ ti ≤ 9223372036854775807) := Lib.hid HOKK.out.1
        have HBL : Hid (w.heap.size < wA.heap.size) := Lib.hid (by obtain ⟨_, _, _, h, _⟩ := HS.out; exact h.lt.1)
        generalize keysO (bareL tl) = K at HKE HKB HKR HKM HKL
        have HI0 : Hid (∀ vK W, OwnI X.heap.size W vK K → Aft X W → WI2 w wA W xs k 0 ti (boxT ti true (.slice sp tl.length sc)) vK K) := Lib.hid fun vK W hv hW => by
          obtain ⟨n, ks, h1, h2, h3, h4, h5⟩ := HS.out
          have hAW := HAX.out.trans hW
          refine ⟨n, ks, by omega, Mp.MG.ext (h2.below hAW) rfl (fun x => by simp), h3, fun x => by rw [h4]; simp, h5.trans hAW, (hW.block _ (heap_lt HBX.out)).trans HBX.out, HXS.out ▸ hv, ?_⟩
          refine Mp.shuns_below (Mp.shuns_mono h2.shuns (fun g hg => ?_)) hAW h2.lt.1
          rcases hg with rfl | hg
          · exact Nat.le_refl _
          · have := (hv.lt g hg).1
            have := HXS.out
            omega
        have HRF : Hid (∀ vK W, WI2 w wA W xs k K.length ti (boxT ti true (.slice sp tl.length sc)) vK K → WO w W xs (k + 1)) := Lib.hid fun vK W h => by
          obtain ⟨n, ks, h1, h2, h3, h4, h5, _⟩ := h
          refine ⟨n, ks, by have := HKL.out; omega, Mp.MG.ext h2 rfl (fun x => ?_), h3, fun x => ?_, h5⟩
          · rw [HTW.out, List.take_length]
            by_cases hm : x ∈ K
            · rw [if_pos hm, if_pos ⟨rfl, (HKM.out x).1 hm⟩]
            · rw [if_neg hm, if_neg (fun e => hm ((HKM.out x).2 e.2))]
          · rw [HTK.out, h4, List.take_length, HKM.out]
            simp
        clear HS HTW HTK HOKK HOP HLK
        generalize hbx : boxT ti true (.slice sp tl.length sc) = bx at HI0 HRF HBX
        have HBC : Hid (∀ W : World, W.heap[wA.heap.size]? = some bx → W.cell? ⟨wA.heap.size, 0, none⟩ = some (.int .i64 ti) ∧ W.cell? ⟨wA.heap.size, 1, none⟩ = some (.bool true) ∧ W.cell? ⟨wA.heap.size, 2, none⟩ = some (.slice sp tl.length sc)) := Lib.hid fun W hW => by
          rw [← hbx] at hW
          exact (cellsT hW).2.1
        clear hbx
        unfold boxT at hX
        generalize tl.length = tn at c2 hX HKE HBC
        go_wp2_with fail
        rw [← hX]
        refine HKE.out.mono ?_
        rintro e wB ⟨vK, rfl, hvK, haB⟩
        have HI1 := Lib.hid (HI0.out vK wB hvK haB)
        obtain ⟨pK, cK, rfl, _, _⟩ := (hvK.ints (by have := HKL.out; omega)).open_
        clear hvK haB HI0 HKE hX
        have hkl := HKL.out
        obtain ⟨Kn, hKn⟩ : ∃ n, n = K.length := ⟨_, rfl⟩
        rw [← hKn] at hkl HI1 HRF
        have HKN := Lib.hid hKn
        clear hKn HAX HBX HXS c0 c1 c2 HKL
        rw [← HKN.out]
        go_wp2_with fail
        go_loopw [21] (fun s21 wr => ∃ j : Nat, s21 = .int .i64 (j : Int) ∧ j ≤ Kn ∧ Hid (WI2 w wA wr xs k j ti bx (.slice pK Kn cK) K)) (fun s21 _ => Kn - (intOf s21).toNat)
        case atStart => exact ⟨0, rfl, Nat.zero_le _, HI1⟩
        case round =>
          clear HI1
          obtain ⟨j, rfl, hj, HS⟩ := hrel
          by_cases hlt2 : j < Kn
          · obtain ⟨n, ks, hn, hm, hnd, hmem, ha, hbx, hK, hsh⟩ := HS.out
            have hltK : j < K.length := by rw [← HKN.out]; exact hlt2
            obtain ⟨p', c', e, _, hc⟩ := (hK.ints (by rw [← HKN.out]; omega)).open_
            injection e with e1 e2 e3
            subst e1 e3
            clear e2
            obtain ⟨g2, o2, rfl, _, hg2, hcell⟩ := hc j hltK
            clear hc
            have hyb := HKB.out _ (getD_memV (z := 0) hltK)
            have HNEW := Lib.hid (rises_new HKR.out hltK)
            obtain ⟨e0, _, _⟩ := HBC.out wr hbx
            have hbl := heap_lt hbx
            have hjI : (j : Int) < (Kn : Int) := by omega
            obtain ⟨y, hy⟩ : ∃ y, K.getD j 0 = y := ⟨_, rfl⟩
            rw [hy] at hcell hyb HNEW
            have HY := Lib.hid hy
            obtain ⟨F, hF⟩ : ∃ F : Int → List Int, F = fun x => wrsL (xs.take k) x ++ (if x ∈ K.take j then [ti] else []) := ⟨_, rfl⟩
            rw [← hF] at hm
            have HFL : Hid ((F y).length ≤ 4097) := Lib.hid (by
              rw [hF]
              simp only [List.length_append]
              have := wrs_len (xs.take k) y
              rw [List.length_take] at this
              split <;> simp <;> omega)
            have hmx : n < maxLen := by simp only [maxLen]; omega
            have HM := Lib.hid hm
            have HN := Lib.hid (And.intro hn (And.intro hnd (And.intro hmem (And.intro ha (And.intro hbx (And.intro hK hsh))))))
            have HFF := Lib.hid hF
            clear hn hm hnd hmem ha hbx hK hsh hF hy HS HRF HBC HKB HKM HKR
            go_wp2_with (first
              | (at_lookup; refine Mp.wp_lookG Try.underlying3 Try.underlying60 zeroSl rfl (.tmp 27) (.tmp 28) rfl HM.out hmx rfl y rfl hyb ?_; intro v1 h1 h2 h3 h4 h5; have H1 := Lib.hid h1; have H2 := Lib.hid h2; have H3 := Lib.hid h3; have H4 := Lib.hid h4; have H5 := Lib.hid h5; clear h1 h2 h3 h4 h5)
              | (at_builtin; refine append_ints rfl (.tmp 29) (.tmp 32) rfl (B := w.heap.size + 1) (v := v1) (zs := F y) (by have := HBL.out; simp; omega) (OwnI.lay H1.out rfl _) rfl (int_at ti (heap_alloc_at _ _ _ (by simp))) (fun n c e => by cases e) rfl (by have := HFL.out; simp only [List.length_cons, List.length_nil]; omega) ?_; intro v2 w2 h6 h7 h8; have H6 := Lib.hid h6; have H7 := Lib.hid h7; have H8 := Lib.hid h8; clear h6 h7 h8)
              | (at_mapUpdate; refine Mp.wp_storeG rfl (.tmp 25) (.tmp 26) (.tmp 33) rfl H4.out rfl rfl rfl (World.grownBy.trans (World.grownBy_alloc wr _ v1.ownBlock) H7.out) H6.out (fun z hz => by rcases List.mem_append.1 hz with h | h; exact H2.out z h; simp only [List.mem_singleton] at h; subst h; exact WalkArith.wf_i64 HTI.out) (by simp) (by have := H3.out; simp only [List.length_append, List.length_cons, List.length_nil]; omega) (by rcases H8.out with h | h; exact .inl h; exact .inr ⟨_, h, by simp⟩) ?_; intro w3 h9 h10 h11; have HR : Hid (WI2 w wA w3 xs k (j + 1) ti bx (.slice (some ⟨g2, o2, none⟩) Kn cK) K) := Lib.hid (WI2.next hltK HY.out HN.out.1 HNEW.out HN.out.2.1 HN.out.2.2.1 HN.out.2.2.2.1 HN.out.2.2.2.2.1 HN.out.2.2.2.2.2.1 HN.out.2.2.2.2.2.2 HBL.out (H5.out _ HN.out.2.2.2.2.2.2) (fun g hg => (World.ownsRow.lt H1.out g hg).1) H7.out H8.out (by have := h9; rw [HFF.out] at this; exact this) h10 h11); clear h9 h10 h11))
            go_roundw
            case rel => exact ⟨j + 1, by go_num, by omega, HR⟩
            case measure => simp [intOf]; omega
          · have hje : j = Kn := by omega
            subst hje
            have HR := Lib.hid (HRF.out _ _ HS.out)
            clear HS HRF HBC HKB HKM HKR
            go_wp2_with fail
            go_roundw
            case rel => exact ⟨k + 1, by go_num, hlt, HR⟩
            case measure => simp [intOf]; omega
    · have hke : k = xs.length := by omega
      subst hke
      have HR : Hid (WrP xs w (.returned (.map (some w.heap.size))) wA) := Lib.hid (by
        obtain ⟨n, ks, h1, h2, h3, h4, h5⟩ := HS.out
        rw [List.take_length] at h2 h4
        exact ⟨_, _, n, ks, rfl, by have := HX.out; omega, Nat.le_refl _, h2, h3, h4, h5⟩)
      clear HS HT hlt hk
      go_wp2_with fail
      go_ret
      exact HR.out
end Go.Proofs.Ytmgkpabagpgilaa.Hi
namespace Go.Proofs.Ytmgkpabagpgilaa.Hi
open Go.ChangeShapes Go.WideShapes Go.ChangeAt Go.RowKit Base F Tx Lst
/-- A history that is not too much for the document's ways. -/
structure HistSm (h : Hist) : Prop where
  txs : ∀ t ∈ h.txs, Txn.ok t
  ords : ∀ o ∈ h.ords, Ordr.ok o
  num : h.txs.length ≤ 1000
  ops : ∀ t ∈ h.txs, t.ops.length ≤ 100
  ids : ∀ o ∈ h.ords, o.txs.length ≤ 1000
def boxH (v u : Value) : Obj := .cells #[v, u] 25
theorem cellsH {w : World} {g : Nat} {v u : Value} (h : w.heap[g]? = some (boxH v u)) : w.cell? ⟨g, 0, none⟩ = some v ∧ w.cell? ⟨g, 1, none⟩ = some u := by
  unfold boxH at h
  simp [World.cell?, h]
theorem allK_len (xs : List Txn) (ho : ∀ t ∈ xs, t.ops.length ≤ 100) : ∀ k, (allK (xs.take k)).length ≤ 100 * k := by
  intro k
  induction k with
  | zero => simp [allK]
  | succ k ih =>
    by_cases hk : k < xs.length
    · rw [take_snoc xs Txn.zero k hk]
      unfold allK at ih ⊢
      rw [List.flatMap_append, List.length_append]
      have h1 := ho _ (getD_mem hk)
      have : (List.flatMap (fun t : Txn => if t.dn then (bareL t.ops).map Opr.k else []) [xs.getD k Txn.zero]).length ≤ 100 := by
        rw [List.flatMap_singleton]
        split
        · rw [List.length_map]
          exact Nat.le_trans (bareL_len _) h1
        · simp
      omega
    · rw [List.take_of_length_le (by omega)] at ih ⊢
      omega
theorem allK_snoc (xs : List Txn) (k : Nat) (hk : k < xs.length) : allK (xs.take (k + 1)) = allK (xs.take k) ++ (if (xs.getD k Txn.zero).dn then (bareL (xs.getD k Txn.zero).ops).map Opr.k else []) := by
  rw [take_snoc xs Txn.zero k hk]
  unfold allK
  rw [List.flatMap_append, List.flatMap_singleton]
theorem keysL_app (A B : List Int) : keysL (A ++ keysL B) = keysL (A ++ B) := rises_ext (keysL_rises _) (keysL_rises _) fun x => by
  rw [mem_keysL, mem_keysL, List.mem_append, List.mem_append, mem_keysL]
end Go.Proofs.Ytmgkpabagpgilaa.Hi
namespace Go.Proofs.Ytmgkpabagpgilaa.Dg
open F Tx Hi
def okN (F : Int × Int → Option Int) : Prop := ∀ q z, F q = some z → i64 q.1 ∧ i64 q.2 ∧ i64 z
theorem setF_ok {F : Int × Int → Option Int} {q : Int × Int} {v : Int} (h : okN F) (h1 : i64 q.1) (h2 : i64 q.2) (h3 : i64 v) : okN (setF F q v) := fun z y e => by
  unfold setF at e
  split at e
  · rename_i hz
    injection e with e
    rw [hz, ← e]
    exact ⟨h1, h2, h3⟩
  · exact h z y e
theorem nxL_ok {key : Int} (hk : i64 key) : ∀ (l : List Int) (s : Int × (Int × Int → Option Int)), (∀ x ∈ l, i64 x) → i64 s.1 → okN s.2 → okN (l.foldl (nxS key) s).2
  | [], s, _, _, h => h
  | x :: l, s, hl, h1, h2 => nxL_ok hk l _ (fun y hy => hl y (List.mem_cons_of_mem _ hy)) (hl x List.mem_cons_self) (setF_ok h2 h1 hk (hl x List.mem_cons_self))
theorem nxH_ok0 (P : Int → Bool) : ∀ (os : List Ordr) (F : Int × Int → Option Int), (∀ o ∈ os, Ordr.ok o) → okN F → okN (os.foldl (nxO P) F)
  | [], F, _, h => h
  | o :: os, F, ho, h => nxH_ok0 P os _ (fun y hy => ho y (List.mem_cons_of_mem _ hy)) (by
    unfold nxO
    split
    · exact nxL_ok (ho o List.mem_cons_self).1 o.txs (0, F) (ho o List.mem_cons_self).2 (by unfold i64; simp) h
    · exact h)
theorem nxH_ok (P : Int → Bool) (os : List Ordr) (ho : ∀ o ∈ os, Ordr.ok o) : okN (nxH P os) := nxH_ok0 P os _ ho (fun q z e => by cases e)
theorem ords_len {h : Hist} (hs : HistSm h) (hr : rightH h = true) : h.ords.length ≤ 100000 := by
  obtain ⟨_, _, _, _, hk, _⟩ := right_iff.1 hr
  have h1 : h.ords.length = (KW h.txs).length := by rw [← hk, List.length_map]
  have h2 := keysL_len (allK h.txs)
  have h3 := allK_len h.txs hs.ops h.txs.length
  rw [List.take_length] at h3
  have h4 := hs.num
  have h5 : (KW h.txs).length = (keysL (allK h.txs)).length := rfl
  omega
theorem ww_start (nx : Int × Int → Option Int) (e : Edg) : wwF nx (fun x => (nx x).isSome) e = 0 := by
  unfold wwF
  rw [if_neg]
  rintro ⟨_, _, h1, h2⟩
  simp only at h2
  rw [h1] at h2
  cases h2
theorem ww_bump {nx : Int × Int → Option Int} {left : Int × Int → Bool} {fr key c : Int} (hn : nx (fr, key) = some c) (hl : left (fr, key) = true) (h0 : fr ≠ 0) :
    wwF nx left ⟨fr, c, 1, key⟩ = 0 ∧ wwF nx (fun z => left z && !decide (z = (fr, key))) ⟨fr, c, 1, key⟩ = 1 ∧ ∀ e, e ≠ ⟨fr, c, 1, key⟩ → wwF nx (fun z => left z && !decide (z = (fr, key))) e = wwF nx left e := by
  refine ⟨?_, ?_, fun e he => ?_⟩
  · unfold wwF
    rw [if_neg]
    rintro ⟨_, _, _, h⟩
    simp only at h
    rw [hl] at h
    cases h
  · unfold wwF
    rw [if_pos ⟨rfl, h0, hn, by simp⟩]
  · unfold wwF
    by_cases hz : ((e.f, e.k) : Int × Int) = (fr, key)
    · have hf : e.f = fr := congrArg Prod.fst hz
      have hk : e.k = key := congrArg Prod.snd hz
      have hne : ¬ (e.kd = 1 ∧ e.f ≠ 0 ∧ nx (e.f, e.k) = some e.t) := by
        rintro ⟨h1, _, h3⟩
        rw [hz, hn] at h3
        injection h3 with h3
        exact he (by cases e; simp only at *; subst hf hk h1 h3; rfl)
      rw [if_neg (fun h => hne ⟨h.1, h.2.1, h.2.2.1⟩), if_neg (fun h => hne ⟨h.1, h.2.1, h.2.2.1⟩)]
    · simp only [decide_eq_false hz, Bool.not_false, Bool.and_true]
theorem ww_skip {nx : Int × Int → Option Int} {left : Int × Int → Bool} {fr key : Int} (h0 : fr = 0) (e : Edg) : wwF nx (fun z => left z && !decide (z = (fr, key))) e = wwF nx left e := by
  unfold wwF
  by_cases hz : ((e.f, e.k) : Int × Int) = (fr, key)
  · have hf : e.f = fr := congrArg Prod.fst hz
    rw [if_neg (fun h => h.2.1 (by rw [hf, h0])), if_neg (fun h => h.2.1 (by rw [hf, h0]))]
  · simp only [decide_eq_false hz, Bool.not_false, Bool.and_true]
theorem ww_le (nx : Int × Int → Option Int) (left : Int × Int → Bool) (e : Edg) : wwF nx left e ≤ 1 := by
  unfold wwF
  split <;> omega
theorem ww_end {nx : Int × Int → Option Int} {left : Int × Int → Bool} (h : ∀ q z, nx q = some z → left q = false) (e : Edg) : wwF nx left e = wwF nx (fun _ => false) e := by
  unfold wwF
  by_cases hn : nx (e.f, e.k) = some e.t
  · rw [h _ _ hn]
  · rw [if_neg (fun h => hn h.2.2.1), if_neg (fun h => hn h.2.2.1)]
end Go.Proofs.Ytmgkpabagpgilaa.Dg
namespace Go.Proofs.Ytmgkpabagpgilaa.Dg
open F Tx Hi
/-- Who stands behind a, in a row that begins behind a0. -/
def chain : Int → List Int → Int → Option Int
  | _, [], _ => none
  | a0, x :: l, a => if a = a0 then some x else chain x l a
theorem chain_none : ∀ (l : List Int) (a0 a : Int), a ∉ a0 :: l → chain a0 l a = none
  | [], _, _, _ => rfl
  | x :: l, a0, a, h => by
    rw [chain, if_neg (fun e => h (by rw [e]; exact List.mem_cons_self))]
    exact chain_none l x a fun hm => h (List.mem_cons_of_mem _ hm)
theorem nx_chain (key : Int) : ∀ (l : List Int) (a0 : Int) (F : Int × Int → Option Int), (a0 :: l).Nodup → ∀ a k', (l.foldl (nxS key) (a0, F)).2 (a, k') = if k' = key then (match chain a0 l a with | some z => some z | none => F (a, key)) else F (a, k')
  | [], a0, F, _, a, k' => by
    simp only [List.foldl_nil, chain]
    split
    · rename_i h; rw [h]
    · rfl
  | x :: l, a0, F, hn, a, k' => by
    obtain ⟨h0, h1⟩ := List.nodup_cons.1 hn
    rw [List.foldl_cons, nxS, nx_chain key l x _ h1 a k']
    by_cases hk : k' = key
    · rw [if_pos hk, if_pos hk]
      by_cases ha : a = a0
      · subst ha
        rw [chain_none l x a h0, chain, if_pos rfl]
        simp [setF]
      · rw [chain, if_neg ha]
        cases chain x l a with
        | some z => rfl
        | none => simp [setF, ha]
    · rw [if_neg hk, if_neg hk]
      simp [setF, hk]
theorem chain_at : ∀ (l : List Int) (a0 a : Int), (a0 :: l).Nodup → a ∈ l → chain a0 l a = l[l.idxOf a + 1]?
  | x :: l, a0, a, hn, ha => by
    obtain ⟨h0, h1⟩ := List.nodup_cons.1 hn
    have hne : a ≠ a0 := fun e => h0 (e ▸ ha)
    rw [chain, if_neg hne]
    by_cases hx : a = x
    · subst hx
      rw [List.idxOf_cons_self]
      cases l with
      | nil => rfl
      | cons y l => rw [chain, if_pos rfl]; rfl
    · have hal : a ∈ l := by
        rcases List.mem_cons.1 ha with e | h
        · exact absurd e hx
        · exact h
      have hi : (x :: l).idxOf a = l.idxOf a + 1 := by
        have hb : (x == a) = false := by rw [beq_eq_false_iff_ne]; exact fun e => hx e.symm
        simp only [List.idxOf_cons, hb]
        rfl
      rw [chain_at l x a h1 hal, hi]
      rfl
theorem chain_next {l : List Int} (hn : l.Nodup) (h0 : (0 : Int) ∉ l) (a : Int) : chain 0 l a = if Om.nextB l a then some (Om.nextV l a) else none := by
  have hn0 : (0 :: l).Nodup := List.nodup_cons.2 ⟨h0, hn⟩
  have key : ∀ k : Nat, l[k]? = if Om.atB l (k : Int) then some (Om.atV l (k : Int)) else none := fun k => by
    by_cases hk : k < l.length
    · rw [Om.atB_in k hk, if_pos rfl, Om.atV_in k hk, List.getElem?_eq_getElem hk, List.getD_eq_getElem?_getD, List.getElem?_eq_getElem hk]
      rfl
    · rw [List.getElem?_eq_none (by omega), if_neg]
      unfold Om.atB
      rw [decide_eq_true_iff]
      omega
  unfold Om.nextB Om.nextV Om.nextAt
  by_cases ha0 : a = 0
  · rw [if_pos ha0, ha0]
    have := key 0
    cases l with
    | nil => rfl
    | cons x l => rw [chain, if_pos rfl]; exact this
  · rw [if_neg ha0]
    by_cases hm : a ∈ l
    · rw [if_pos hm, chain_at l 0 a hn0 hm, Om.idx_mem hm]
      exact key (l.idxOf a + 1)
    · rw [if_neg hm, chain_none l 0 a (fun h => by
        rcases List.mem_cons.1 h with e | h
        · exact ha0 e
        · exact hm h)]
      rw [if_neg]
      unfold Om.atB
      rw [decide_eq_true_iff]
      omega
theorem ordL_none : ∀ (os : List Ordr) (key : Int), (∀ o ∈ os, o.key ≠ key) → ordL os key = []
  | [], _, _ => rfl
  | o :: os, key, h => by
    rw [ordL, if_neg (h o List.mem_cons_self)]
    exact ordL_none os key fun x hx => h x (List.mem_cons_of_mem _ hx)
theorem nxH_chain (P : Int → Bool) {key : Int} (hP : P key = true) (a : Int) : ∀ (os : List Ordr) (F : Int × Int → Option Int), os.Pairwise (fun x y => x.key ≠ y.key) → (∀ o ∈ os, (0 :: o.txs).Nodup) →
    os.foldl (nxO P) F (a, key) = match chain 0 (ordL os key) a with | some z => some z | none => F (a, key)
  | [], F, _, _ => rfl
  | o :: os, F, hp, hn => by
    obtain ⟨h1, h2⟩ := List.pairwise_cons.1 hp
    rw [List.foldl_cons, nxH_chain P hP a os _ h2 fun x hx => hn x (List.mem_cons_of_mem _ hx), ordL]
    have hno := hn o List.mem_cons_self
    by_cases hk : o.key = key
    · rw [if_pos hk, ordL_none os key fun x hx e => h1 x hx (by rw [hk, e])]
      simp only [chain]
      unfold nxO
      rw [hk, hP, if_pos rfl]
      unfold nxL
      rw [nx_chain key o.txs 0 F hno a key, if_pos rfl]
    · rw [if_neg hk]
      have : nxO P F o (a, key) = F (a, key) := by
        unfold nxO
        split
        · unfold nxL
          rw [nx_chain o.key o.txs 0 F hno a key, if_neg (fun e => hk e.symm)]
        · rfl
      rw [this]
theorem findT_in : ∀ {xs : List Txn} {t : Txn}, xs.Pairwise (fun a b => a.id < b.id) → t ∈ xs → findT xs t.id = some t
  | x :: l, t, hp, ht => by
    obtain ⟨h1, h2⟩ := List.pairwise_cons.1 hp
    rcases List.mem_cons.1 ht with e | ht
    · rw [findT, if_pos (by rw [e]), e]
    · have := h1 t ht
      rw [findT, if_neg (by omega)]
      exact findT_in h2 ht
theorem wrs_pw {key : Int} : ∀ {xs : List Txn}, xs.Pairwise (fun a b => a.id < b.id) → (wrsL xs key).Pairwise (· < ·) := fun {xs} hp => by
  unfold wrsL
  rw [List.pairwise_map]
  exact hp.filter _
/-- Of a right history: an order's ids are above 0, none twice, each of one who is done. -/
theorem right_order {h : Hist} (hr : rightH h = true) {o : Ordr} (ho : o ∈ h.ords) : (0 :: o.txs).Nodup ∧ ∀ x ∈ o.txs, ∃ t, findT h.txs x = some t ∧ t.dn = true ∧ 0 < wrN t.ops o.key := by
  obtain ⟨_, h2, h3, _, _, h6⟩ := right_iff.1 hr
  have hp : o.txs.Perm (wrsL h.txs o.key) := of_decide_eq_true (h6 o ho)
  have hw : ∀ x ∈ wrsL h.txs o.key, ∃ t, t ∈ h.txs ∧ t.id = x ∧ t.dn = true ∧ 0 < wrN t.ops o.key := fun x hx => by
    unfold wrsL at hx
    obtain ⟨t, ht, rfl⟩ := List.mem_map.1 hx
    obtain ⟨h7, h8⟩ := List.mem_filter.1 ht
    rw [Bool.and_eq_true, decide_eq_true_iff] at h8
    exact ⟨t, h7, rfl, h8.1, h8.2⟩
  refine ⟨List.nodup_cons.2 ⟨fun h0 => ?_, hp.nodup_iff.2 ((wrs_pw h3).imp (fun h => by omega))⟩, fun x hx => ?_⟩
  · obtain ⟨t, ht, he, _⟩ := hw 0 (hp.mem_iff.1 h0)
    have := (right_ops (h2 t ht)).1.1
    omega
  · obtain ⟨t, ht, rfl, hd, hn⟩ := hw x (hp.mem_iff.1 hx)
    exact ⟨t, findT_in h3 ht, hd, hn⟩
theorem right_keys {h : Hist} (hr : rightH h = true) : h.ords.Pairwise (fun x y => x.key ≠ y.key) := by
  obtain ⟨_, _, _, _, h5, _⟩ := right_iff.1 hr
  have h1 : (h.ords.map Ordr.key).Pairwise (· < ·) := by rw [h5]; exact keysL_rises _
  rw [List.pairwise_map] at h1
  exact h1.imp fun h => by omega
theorem ordL_mem : ∀ {os : List Ordr} {key x : Int}, x ∈ ordL os key → ∃ o, o ∈ os ∧ o.key = key ∧ ordL os key = o.txs
  | [], _, _, h => by cases h
  | o :: os, key, x, h => by
    rw [ordL] at h ⊢
    split
    · rename_i hk
      exact ⟨o, List.mem_cons_self, hk, rfl⟩
    · rename_i hk
      rw [if_neg hk] at h
      obtain ⟨o', h1, h2, h3⟩ := ordL_mem h
      exact ⟨o', List.mem_cons_of_mem _ h1, h2, h3⟩
/-- Who is next, as the document walks. -/
theorem nx_is {h : Hist} (hr : rightH h = true) {P : Int → Bool} {key : Int} (hP : P key = true) (a : Int) : nxH P h.ords (a, key) = if Om.nextB (ordL h.ords key) a then some (Om.nextV (ordL h.ords key) a) else none := by
  have h1 : nxH P h.ords (a, key) = chain 0 (ordL h.ords key) a := by
    unfold nxH
    rw [nxH_chain P hP a h.ords _ (right_keys hr) fun o ho => (right_order hr ho).1]
    cases chain 0 (ordL h.ords key) a <;> rfl
  rw [h1]
  cases hl : ordL h.ords key with
  | nil =>
    rw [chain, if_neg]
    unfold Om.nextB Om.atB
    rw [decide_eq_true_iff]
    first
      | (simp; done)
      | (simp; omega)
  | cons x l =>
    obtain ⟨o, ho, _, he⟩ := ordL_mem (os := h.ords) (key := key) (x := x) (by rw [hl]; exact List.mem_cons_self)
    have hn := (right_order hr ho).1
    rw [← he, hl] at hn
    obtain ⟨hn0, hn1⟩ := List.nodup_cons.1 hn
    exact chain_next hn1 hn0 a
end Go.Proofs.Ytmgkpabagpgilaa.Dg
namespace Go.Proofs.Ytmgkpabagpgilaa.Hi
open Go.ChangeShapes Go.WideShapes Go.ChangeAt Go.RowKit Base F Tx Lst
set_option maxRecDepth 100000 in
set_option maxHeartbeats 8000000 in
theorem ordersRight_any {v : Value} {os : List Ordr} {base b n : Nat} {ks : List Int} {f : Int → List Int} (w : World) (h : Ords w v os) (hok : ∀ o ∈ os, Ordr.ok o) (hl : ∀ o ∈ os, o.txs.length ≤ 1000000) (hm : MW w base b n ks f) (hn : n ≤ 100000 * 4096) (hf : ∀ x, Or.Bd (f x)) :
    Calls Try.prog 19 #[v, .map (some b)] w (BoolNew (if os.length = ks.length then ordsB f 0 os else false) w) := by
  obtain ⟨p, c, rfl, _, hlm⟩ := h.form
  have HM : Hid (∀ X, Aft w X → MW X base b n ks f) := Lib.hid fun X hX => hm.below hX
  have hmx : n < maxLen := by simp only [maxLen]; omega
  have HM0 := Lib.hid hm
  by_cases hlen : os.length = ks.length
  · rw [if_pos hlen]
    have hb : ((os.length : Int) != (ks.length : Int)) = false := by rw [bne_eq_false_iff_eq]; omega
    have HT := Lib.hid h
    have HOK := Lib.hid hok
    have HL := Lib.hid hl
    have HF := Lib.hid hf
    have HS0 : Hid (Aft w w ∧ ordsB f 0 os = ordsB f 0 (os.drop 0)) := Lib.hid ⟨Aft.refl w, by simp⟩
    generalize ordsB f 0 os = r at HS0 ⊢
    clear h hok hl hf hm hlen
    go_enter Try.func19, Try.ntmps19
    have hlr := HM0.out.len Try.underlying60 3
    go_wp2_with fail
    clear hlr
    clear HM0
    go_loopw [5, 16] (fun s5 s16 wr => ∃ (k : Nat) (la : Int), s5 = .int .i64 la ∧ s16 = .int .i64 (k : Int) ∧ k ≤ os.length ∧ Hid (Aft w wr ∧ r = ordsB f la (os.drop k))) (fun _ s16 _ => os.length - (intOf s16).toNat)
    case atStart => exact ⟨0, 0, rfl, rfl, Nat.zero_le _, HS0⟩
    case round =>
      clear HS0
      obtain ⟨k, la, rfl, rfl, hk, HS⟩ := hrel
      by_cases hlt : k < os.length
      · obtain ⟨g, o, sp, sc, rfl, hg, c0, c1, hs⟩ := HT.out.at_ hlt
        have c0 := HS.out.1.cell hg c0
        have c1 := HS.out.1.cell hg c1
        have hg := Nat.lt_of_lt_of_le hg HS.out.1.size
        have HR : Hid (r = ordsB f la (os.getD k Ordr.zero :: os.drop (k + 1))) := Lib.hid (by rw [HS.out.2, drop_cons os Ordr.zero k hlt])
        have HLK := Lib.hid (HL.out _ (getD_mem' Ordr.zero hlt))
        have HOKK := Lib.hid (HOK.out _ (getD_mem' Ordr.zero hlt))
        have HOP : Hid (∀ X, Aft w X → IdsV X (.slice sp (os.getD k Ordr.zero).txs.length sc) (os.getD k Ordr.zero).txs) := Lib.hid fun X hX => hs.below hX
        have hkI : (k : Int) < (os.length : Int) := by omega
        have HSA := Lib.hid HS.out.1
        generalize os.getD k Ordr.zero = t at c0 c1 HR HLK HOKK HOP hs
        obtain ⟨ti, tl⟩ := t
        simp only at c0 c1 HR HLK HOKK HOP hs
        clear hs HS HT HL HOK
        have hkb : -9223372036854775808 ≤ ti ∧ ti ≤ 9223372036854775807 := HOKK.out.1
        obtain ⟨m, hmm⟩ : ∃ m, (f ti).length = m := ⟨_, rfl⟩
        have HML := Lib.hid hmm
        have HR2 : Hid (r = if ti ≤ la then false else if f ti = [] then false else if Om.permB tl (f ti) then ordsB f ti (os.drop (k + 1)) else false) := HR
        have HW : Hid (Aft w (wr.alloc (.cells #[.int .i64 ti, .slice sp tl.length sc] 43))) := Lib.hid (HSA.out.lay _)
        have HMW := Lib.hid (HM.out _ HW.out)
        have HIX := Lib.hid (HOP.out _ HW.out).2
        have HBT : Hid (Or.Bd tl) := Lib.hid HOKK.out.2
        have HBF := Lib.hid (HF.out ti)
        clear HR HOP HOKK hmm
        obtain ⟨tn, htn⟩ : ∃ n, n = tl.length := ⟨_, rfl⟩
        rw [← htn] at c1 HW HMW HIX
        have HTN := Lib.hid htn
        clear htn
        by_cases h1 : ti ≤ la
        · have HE : Hid (r = false) := Lib.hid (by rw [HR2.out, if_pos h1])
          clear HR2
          go_wp2_with (at_lookup; refine Mp.wp_lookG Try.underlying3 Try.underlying60 zeroSl rfl (.tmp 20) (.tmp 22) rfl HMW.out hmx rfl ti rfl hkb ?_; intro v1 h1 h2 h3 _ _; clear h1 h2 h3)
          go_ret
          exact ⟨ret_bool HE.out.symm, HW.out⟩
        · by_cases h2 : f ti = []
          · have HE : Hid (r = false) := Lib.hid (by rw [HR2.out, if_neg h1, if_pos h2])
            have hm0 : m = 0 := by rw [← HML.out, h2]; rfl
            subst hm0
            clear HR2 h2
            go_wp2_with (at_lookup; refine Mp.wp_lookG Try.underlying3 Try.underlying60 zeroSl rfl (.tmp 20) (.tmp 22) rfl HMW.out hmx rfl ti rfl hkb ?_; intro v1 h3 h4 h5 _ _; obtain ⟨p1, c1, hv1, _⟩ := (OwnI.ints (B := base) h3 (by rw [HML.out]; omega)).open_; rw [HML.out] at hv1; subst hv1; clear h3 h4 h5)
            go_ret
            exact ⟨ret_bool HE.out.symm, HW.out⟩
          · have hmz : m ≠ 0 := fun e => h2 (List.eq_nil_of_length_eq_zero (by rw [HML.out, e]))
            have hmb : ((m : Int) == 0) = false := by rw [beq_eq_false_iff_ne]; omega
            have HR3 : Hid (r = if Om.permB tl (f ti) then ordsB f ti (os.drop (k + 1)) else false) := Lib.hid (by rw [HR2.out, if_neg h1, if_neg h2])
            have HPM : Hid (∀ v1, OwnI base (wr.alloc (.cells #[.int .i64 ti, .slice sp tn sc] 43)) v1 (f ti) → (f ti).length ≤ n → Calls Try.prog 32 #[.slice sp tn sc, v1] (wr.alloc (.cells #[.int .i64 ti, .slice sp tn sc] 43)) (Or.BoolNew (Om.permB tl (f ti)) (wr.alloc (.cells #[.int .i64 ti, .slice sp tn sc] 43)))) := Lib.hid fun v1 h3 h5 => Or.perm_any _ HIX.out (h3.ints (by omega)) HLK.out HBT.out HBF.out
            generalize Om.permB tl (f ti) = q at HPM HR3
            clear HR2 h2 HIX HBT HBF HLK HTN
            have HBX : Hid (∀ W, Aft (wr.alloc (.cells #[.int .i64 ti, .slice sp tn sc] 43)) W → W.cell? ⟨wr.heap.size, 0, none⟩ = some (.int .i64 ti)) := Lib.hid fun W hW => by
              have e : (wr.alloc (.cells #[.int .i64 ti, .slice sp tn sc] 43)).heap[wr.heap.size]? = some (.cells #[.int .i64 ti, .slice sp tn sc] 43) := heap_alloc_at _ _ _ rfl
              have := (hW.block _ (heap_lt e)).trans e
              simp [World.cell?, this]
            cases q with
            | true =>
              go_wp2_with (first
                | (at_lookup; refine Mp.wp_lookG Try.underlying3 Try.underlying60 zeroSl rfl (.tmp 20) (.tmp 22) rfl HMW.out hmx rfl ti rfl hkb ?_; intro v1 h3 h4 h5 _ _; have HP1 := Lib.hid (HPM.out v1 h3 h5); obtain ⟨p1, c1, hv1, _⟩ := (OwnI.ints (B := base) h3 (by omega)).open_; rw [HML.out] at hv1; subst hv1; clear h3 h4 h5)
                | (go_at_call 32; refine HP1.out.mono ?_; rintro e w2 ⟨rfl, ha⟩; have e0 := HBX.out _ ha; have HA2 := Lib.hid (HW.out.trans ha); clear ha HP1))
              go_roundw
              case rel => exact ⟨k + 1, ti, rfl, by go_num, hlt, Lib.hid ⟨HA2.out, by rw [HR3.out]; rfl⟩⟩
              case measure => simp [intOf]; omega
            | false =>
              go_wp2_with (first
                | (at_lookup; refine Mp.wp_lookG Try.underlying3 Try.underlying60 zeroSl rfl (.tmp 20) (.tmp 22) rfl HMW.out hmx rfl ti rfl hkb ?_; intro v1 h3 h4 h5 _ _; have HP1 := Lib.hid (HPM.out v1 h3 h5); obtain ⟨p1, c1, hv1, _⟩ := (OwnI.ints (B := base) h3 (by omega)).open_; rw [HML.out] at hv1; subst hv1; clear h3 h4 h5)
                | (go_at_call 32; refine HP1.out.mono ?_; rintro e w2 ⟨rfl, ha⟩; have HA2 := Lib.hid (HW.out.trans ha); clear ha HP1))
              go_ret
              exact ⟨ret_bool (by rw [HR3.out]; rfl), HA2.out⟩
      · have hke : k = os.length := by omega
        subst hke
        have HE : Hid (r = true ∧ Aft w wr) := Lib.hid ⟨by rw [HS.out.2, List.drop_length]; rfl, HS.out.1⟩
        clear HS HT HL HOK
        go_wp2_with fail
        go_ret
        exact ⟨ret_bool HE.out.1.symm, HE.out.2⟩
  · rw [if_neg hlen]
    have hb : ((os.length : Int) != (ks.length : Int)) = true := by rw [bne_iff_ne]; omega
    clear h hok hl hf hm hlen
    go_enter Try.func19, Try.ntmps19
    have hlr := HM0.out.len Try.underlying60 3
    go_wp2_with fail
    clear hlr
    go_ret
    exact ⟨rfl, Aft.refl _⟩
end Go.Proofs.Ytmgkpabagpgilaa.Hi
namespace Go.Proofs.Ytmgkpabagpgilaa.Dg
open Go.ChangeShapes Go.WideShapes Go.ChangeAt Go.RowKit Base F Tx Hi
def SH : Hist := ⟨[⟨1, true, [⟨false, 5, 0, 0⟩]⟩, ⟨2, true, [⟨false, 5, 0, 0⟩, ⟨true, 5, 1, 1⟩]⟩, ⟨3, true, [⟨true, 5, 0, 0⟩, ⟨true, 5, 0, 0⟩]⟩], [⟨5, [1, 2]⟩]⟩
theorem SH_sm : HistSm SH := by
  have hc : ∀ t ∈ SH.txs, Txn.ok t ∧ t.ops.length ≤ 100 := fun t ht => by
    simp only [SH, List.mem_cons, List.not_mem_nil, or_false] at ht
    rcases ht with rfl | rfl | rfl
    · refine ⟨⟨by unfold i64; simp, fun x hx => ?_⟩, by simp⟩
      simp only [List.mem_cons, List.not_mem_nil, or_false] at hx
      subst hx
      unfold Opr.ok; dsimp only; omega
    · refine ⟨⟨by unfold i64; simp, fun x hx => ?_⟩, by simp⟩
      simp only [List.mem_cons, List.not_mem_nil, or_false] at hx
      rcases hx with rfl | rfl <;> (unfold Opr.ok; dsimp only; omega)
    · refine ⟨⟨by unfold i64; simp, fun x hx => ?_⟩, by simp⟩
      simp only [List.mem_cons, List.not_mem_nil, or_false] at hx
      rcases hx with rfl | rfl <;> (unfold Opr.ok; dsimp only; omega)
  refine ⟨fun t ht => (hc t ht).1, fun o ho => ?_, by decide, fun t ht => (hc t ht).2, fun o ho => ?_⟩
  · simp only [SH, List.mem_cons, List.not_mem_nil, or_false] at ho
    subst ho
    refine ⟨by unfold i64; simp, fun x hx => ?_⟩
    simp only [List.mem_cons, List.not_mem_nil, or_false] at hx
    rcases hx with rfl | rfl <;> (unfold i64; simp)
  · simp only [SH, List.mem_cons, List.not_mem_nil, or_false] at ho
    subst ho
    simp
def SmP (w : World) (e : Ending) (w' : World) : Prop := ∃ p c q d, e = .returned (.agg #[.slice p 3 c, .slice q 1 d]) ∧ HistV w' (.slice p 3 c) (.slice q 1 d) SH ∧ Aft w w'
set_option maxRecDepth 100000 in
set_option maxHeartbeats 8000000 in
theorem small_any (w : World) : Calls Try.prog 10 #[] w (SmP w) := by
  obtain ⟨X, hX⟩ : ∃ X, X = ((((((((w.alloc (.cells #[.slice (some ⟨w.heap.size + 1 + 1 + 1 + 1 + 1, 0, none⟩) 3 3, .slice (some ⟨w.heap.size + 1 + 1 + 1 + 1 + 1 + 1 + 1, 0, none⟩) 1 1] 25)).alloc (.cells #[.bool true, .int .i64 5, .int .i64 0, .int .i64 0] 45)).alloc (.cells #[.bool false, .int .i64 5, .int .i64 0, .int .i64 0] 45)).alloc (.cells #[.bool false, .int .i64 5, .int .i64 0, .int .i64 0, .bool true, .int .i64 5, .int .i64 1, .int .i64 1] 45)).alloc (.cells #[.bool true, .int .i64 5, .int .i64 0, .int .i64 0, .bool true, .int .i64 5, .int .i64 0, .int .i64 0] 45)).alloc (.cells #[.int .i64 1, .bool true, .slice (some ⟨w.heap.size + 1 + 1, 0, none⟩) 1 1, .int .i64 2, .bool true, .slice (some ⟨w.heap.size + 1 + 1 + 1, 0, none⟩) 2 2, .int .i64 3, .bool true, .slice (some ⟨w.heap.size + 1 + 1 + 1 + 1, 0, none⟩) 2 2] 40)).alloc (.cells #[.int .i64 1, .int .i64 2] 3)).alloc (.cells #[.int .i64 5, .slice (some ⟨w.heap.size + 1 + 1 + 1 + 1 + 1 + 1, 0, none⟩) 2 2] 43)) := ⟨_, rfl⟩
  have e0 : X.heap[w.heap.size]? = some (.cells #[.slice (some ⟨w.heap.size + 1 + 1 + 1 + 1 + 1, 0, none⟩) 3 3, .slice (some ⟨w.heap.size + 1 + 1 + 1 + 1 + 1 + 1 + 1, 0, none⟩) 1 1] 25) := by rw [hX]; exact heap_alloc_lt _ _ _ _ (heap_alloc_lt _ _ _ _ (heap_alloc_lt _ _ _ _ (heap_alloc_lt _ _ _ _ (heap_alloc_lt _ _ _ _ (heap_alloc_lt _ _ _ _ (heap_alloc_lt _ _ _ _ (heap_alloc_at _ _ _ rfl)))))))
  have e2 : X.heap[w.heap.size + 1 + 1]? = some (.cells #[.bool false, .int .i64 5, .int .i64 0, .int .i64 0] 45) := by rw [hX]; exact heap_alloc_lt _ _ _ _ (heap_alloc_lt _ _ _ _ (heap_alloc_lt _ _ _ _ (heap_alloc_lt _ _ _ _ (heap_alloc_lt _ _ _ _ (heap_alloc_at _ _ _ (by simp))))))
  have e3 : X.heap[w.heap.size + 1 + 1 + 1]? = some (.cells #[.bool false, .int .i64 5, .int .i64 0, .int .i64 0, .bool true, .int .i64 5, .int .i64 1, .int .i64 1] 45) := by rw [hX]; exact heap_alloc_lt _ _ _ _ (heap_alloc_lt _ _ _ _ (heap_alloc_lt _ _ _ _ (heap_alloc_lt _ _ _ _ (heap_alloc_at _ _ _ (by simp)))))
  have e4 : X.heap[w.heap.size + 1 + 1 + 1 + 1]? = some (.cells #[.bool true, .int .i64 5, .int .i64 0, .int .i64 0, .bool true, .int .i64 5, .int .i64 0, .int .i64 0] 45) := by rw [hX]; exact heap_alloc_lt _ _ _ _ (heap_alloc_lt _ _ _ _ (heap_alloc_lt _ _ _ _ (heap_alloc_at _ _ _ (by simp))))
  have e5 : X.heap[w.heap.size + 1 + 1 + 1 + 1 + 1]? = some (.cells #[.int .i64 1, .bool true, .slice (some ⟨w.heap.size + 1 + 1, 0, none⟩) 1 1, .int .i64 2, .bool true, .slice (some ⟨w.heap.size + 1 + 1 + 1, 0, none⟩) 2 2, .int .i64 3, .bool true, .slice (some ⟨w.heap.size + 1 + 1 + 1 + 1, 0, none⟩) 2 2] 40) := by rw [hX]; exact heap_alloc_lt _ _ _ _ (heap_alloc_lt _ _ _ _ (heap_alloc_at _ _ _ (by simp)))
  have e6 : X.heap[w.heap.size + 1 + 1 + 1 + 1 + 1 + 1]? = some (.cells #[.int .i64 1, .int .i64 2] 3) := by rw [hX]; exact heap_alloc_lt _ _ _ _ (heap_alloc_at _ _ _ (by simp))
  have e7 : X.heap[w.heap.size + 1 + 1 + 1 + 1 + 1 + 1 + 1]? = some (.cells #[.int .i64 5, .slice (some ⟨w.heap.size + 1 + 1 + 1 + 1 + 1 + 1, 0, none⟩) 2 2] 43) := by rw [hX]; exact heap_alloc_at _ _ _ (by simp)
  have ha : Aft w X := by rw [hX]; exact (((((((Aft.one _).lay _).lay _).lay _).lay _).lay _).lay _).lay _
  have c0 := cellsH e0
  have o2 : Oprs 0 X (.slice (some ⟨w.heap.size + 1 + 1, 0, none⟩) 1 1) [⟨false, 5, 0, 0⟩] := Off.own_lit _ rfl e2 (by decide) 1 rfl
  have o3 : Oprs 0 X (.slice (some ⟨w.heap.size + 1 + 1 + 1, 0, none⟩) 2 2) [⟨false, 5, 0, 0⟩, ⟨true, 5, 1, 1⟩] := Off.own_lit _ rfl e3 (by decide) 2 rfl
  have o4 : Oprs 0 X (.slice (some ⟨w.heap.size + 1 + 1 + 1 + 1, 0, none⟩) 2 2) [⟨true, 5, 0, 0⟩, ⟨true, 5, 0, 0⟩] := Off.own_lit _ rfl e4 (by decide) 2 rfl
  have i6 : Lst.Ints 0 X (.slice (some ⟨w.heap.size + 1 + 1 + 1 + 1 + 1 + 1, 0, none⟩) 2 2) [1, 2] := .inr ⟨w.heap.size + 1 + 1 + 1 + 1 + 1 + 1, 0, 2, rfl, Nat.zero_le _, heap_lt e6, by simp, fun k hk => by
    have hk : k < 2 := hk
    match k, hk with
    | 0, _ => simp [World.cell?, e6]
    | 1, _ => simp [World.cell?, e6]⟩
  have HH : HistV X (.slice (some ⟨w.heap.size + 1 + 1 + 1 + 1 + 1, 0, none⟩) 3 3) (.slice (some ⟨w.heap.size + 1 + 1 + 1 + 1 + 1 + 1 + 1, 0, none⟩) 1 1) SH := by
    refine ⟨⟨⟨_, _, rfl, by decide, (fun h => by cases h), by decide⟩, fun k hk => ?_⟩, ⟨⟨_, _, rfl, by decide, (fun h => by cases h), by decide⟩, fun k hk => ?_⟩⟩
    · have hk : k < 3 := hk
      match k, hk with
      | 0, _ => exact ⟨w.heap.size + 1 + 1 + 1 + 1 + 1, 0, 3, rfl, heap_lt e5, by simp [World.cell?, e5, SH], by simp [World.cell?, e5, SH], .slice (some ⟨w.heap.size + 1 + 1, 0, none⟩) 1 1, by simp [World.cell?, e5], ⟨_, _, rfl, Nat.le_refl _⟩, o2⟩
      | 1, _ => exact ⟨w.heap.size + 1 + 1 + 1 + 1 + 1, 0, 3, rfl, heap_lt e5, by simp [World.cell?, e5, SH], by simp [World.cell?, e5, SH], .slice (some ⟨w.heap.size + 1 + 1 + 1, 0, none⟩) 2 2, by simp [World.cell?, e5], ⟨_, _, rfl, Nat.le_refl _⟩, o3⟩
      | 2, _ => exact ⟨w.heap.size + 1 + 1 + 1 + 1 + 1, 0, 3, rfl, heap_lt e5, by simp [World.cell?, e5, SH], by simp [World.cell?, e5, SH], .slice (some ⟨w.heap.size + 1 + 1 + 1 + 1, 0, none⟩) 2 2, by simp [World.cell?, e5], ⟨_, _, rfl, Nat.le_refl _⟩, o4⟩
    · have hk : k < 1 := hk
      obtain rfl : k = 0 := by omega
      exact ⟨w.heap.size + 1 + 1 + 1 + 1 + 1 + 1 + 1, 0, 1, rfl, heap_lt e7, by simp [World.cell?, e7, SH], .slice (some ⟨w.heap.size + 1 + 1 + 1 + 1 + 1 + 1, 0, none⟩) 2 2, by simp [World.cell?, e7], ⟨_, _, rfl, Nat.le_refl _⟩, i6⟩
  have HP : Hid (SmP w (.returned (.agg #[.slice (some ⟨w.heap.size + 1 + 1 + 1 + 1 + 1, 0, none⟩) 3 3, .slice (some ⟨w.heap.size + 1 + 1 + 1 + 1 + 1 + 1 + 1, 0, none⟩) 1 1])) X) := Lib.hid ⟨_, _, _, _, rfl, HH, ha⟩
  have HB := Lib.hid e0
  have HX := Lib.hid hX.symm
  generalize SmP w = Post at HP ⊢
  clear e0 e2 e3 e4 e5 e6 e7 o2 o3 o4 i6 HH ha c0 hX
  go_enter Try.func10, Try.ntmps10
  go_wp2_with fail
  rw [HX.out]
  exact bodyPost_ret (results_cell_row Try.results10 _ _ w.heap.size _ _ _ _ rfl HB.out Try.underlying25 rfl (by kernel_rfl)) rfl HP.out
end Go.Proofs.Ytmgkpabagpgilaa.Dg
