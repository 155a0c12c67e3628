/-
  Contracts of small functions, several texts laid into one. Not a statement of the seat.
-/
import Derived.Test.YtmgkpabagpgilaaHead23
import Derived.Test.YtmgkpabagpgilaaHead14
import Derived.Test.YtmgkpabagpgilaaHead19
import Derived.Test.YtmgkpabagpgilaaHead25
namespace Go.Proofs.Ytmgkpabagpgilaa.Off
open Go.ChangeShapes Go.WideShapes Go.ChangeAt Go.RowKit Base F Tx Hi Go.Sort
end Go.Proofs.Ytmgkpabagpgilaa.Off
namespace Go.Proofs.Ytmgkpabagpgilaa.Hi
open Go.ChangeShapes Go.WideShapes Go.ChangeAt Go.RowKit Base F Tx Lst Go.Sort
theorem nodup_le : ∀ (l m : List Int), l.Nodup → (∀ x ∈ l, x ∈ m) → l.length ≤ m.length
  | [], _, _, _ => Nat.zero_le _
  | x :: l, m, h, hm => by
    obtain ⟨h1, h2⟩ := List.nodup_cons.1 h
    have hx := hm x List.mem_cons_self
    have := nodup_le l (m.erase x) h2 fun y hy => (List.mem_erase_of_ne (fun e => h1 (by rw [← e]; exact hy))).2 (hm y (List.mem_cons_of_mem _ hy))
    rw [List.length_erase_of_mem hx] at this
    have := List.length_pos_of_mem hx
    simp only [List.length_cons]
    omega
theorem rises_nodup {l : List Int} (h : Rises l) : l.Nodup := List.Pairwise.imp (fun h => by omega) h
theorem keys_len {ks : List Int} {xs : List Txn} (h : ks.Nodup) (hm : ∀ x, x ∈ ks ↔ x ∈ allK xs) : ks.length = (KW xs).length := by
  have h1 := nodup_le ks (KW xs) h fun x hx => mem_keysL.2 ((hm x).1 hx)
  have h2 := nodup_le (KW xs) ks (rises_nodup (keysL_rises _)) fun x hx => (hm x).2 (mem_keysL.1 hx)
  omega
theorem wrs_bd {xs : List Txn} (hok : ∀ t ∈ xs, Txn.ok t) (x : Int) : Or.Bd (wrsL xs x) := fun y hy => by
  obtain ⟨t, ht, rfl⟩ := List.mem_map.1 hy
  exact (hok t (List.mem_filter.1 ht).1).1
/-- A history whose numbers are the machine's, and that is not too much. -/
structure HistOk (h : Hist) : Prop where
  txs : ∀ t ∈ h.txs, Txn.ok t
  ords : ∀ o ∈ h.ords, Ordr.ok o
  ops : ∀ t ∈ h.txs, t.ops.length ≤ 100000
  ids : ∀ o ∈ h.ords, o.txs.length ≤ 1000000
/-- What look leaves. -/
def LookP (h : Hist) (w : World) (e : Ending) (w' : World) : Prop := ∃ mv, e = .returned (.tuple #[mv, .bool (rightH h)]) ∧ Aft w w' ∧ (rightH h = true → ∃ b n, mv = .map (some b) ∧ MC w' b n (fun q => ((cntW h.txs q.1 q.2 : Nat) : Int)))
set_option maxRecDepth 100000 in
set_option maxHeartbeats 8000000 in
theorem look_any {v u : Value} {h : Hist} (w : World) (hh : HistV w v u h) (ho : HistOk h) : Calls Try.prog 11 #[.agg #[v, u]] w (LookP h w) := by
  obtain ⟨xs, os⟩ := h
  obtain ⟨h1, h2⟩ := hh
  obtain ⟨o1, o2, o3, o4⟩ := ho
  simp only at h1 h2 o1 o2 o3 o4
  obtain ⟨p, c, rfl, _, hlm⟩ := h1.form
  obtain ⟨q, d, rfl, _, hlm2⟩ := h2.form
  obtain ⟨X, hX⟩ : ∃ X, X = w.alloc (.cells #[.slice p xs.length c, .slice q os.length d] 25) := ⟨_, rfl⟩
  have HA : Hid (Aft w X) := Lib.hid (by rw [hX]; exact Aft.one _)
  have HB : Hid (∀ W, Aft X W → W.cell? ⟨w.heap.size, 0, none⟩ = some (.slice p xs.length c) ∧ W.cell? ⟨w.heap.size, 1, none⟩ = some (.slice q os.length d)) := Lib.hid fun W hW => by
    have e : X.heap[w.heap.size]? = some (.cells #[.slice p xs.length c, .slice q os.length d] 25) := by rw [hX]; exact heap_alloc_at _ _ _ rfl
    have := (hW.block _ (heap_lt e)).trans e
    simp [World.cell?, this]
  obtain ⟨r, hr⟩ : ∃ r, r = rightH ⟨xs, os⟩ := ⟨_, rfl⟩
  have HP : Hid (∀ e w' mv, e = .returned (.tuple #[mv, .bool r]) → Aft w w' → (r = true → ∃ b n, mv = .map (some b) ∧ MC w' b n (fun q => ((cntW xs q.1 q.2 : Nat) : Int))) → LookP ⟨xs, os⟩ w e w') := Lib.hid fun e w' mv h1 h2 h3 => ⟨mv, by rw [← hr]; exact h1, h2, by rw [← hr]; exact h3⟩
  generalize LookP ⟨xs, os⟩ w = Post at HP ⊢
  by_cases hx : 4096 < xs.length
  · have HR : Hid (r = false) := Lib.hid (by rw [hr]; unfold rightH; exact if_pos hx)
    clear hr
    have hxi : (4096 : Int) < (xs.length : Int) := by omega
    clear h1 h2 o1 o2 o3 o4 HB
    generalize xs.length = n1 at *
    generalize os.length = n2 at *
    go_enter Try.func11, Try.ntmps11
    subst hX
    go_wp2_with fail
    exact HP.out _ _ (.map none) (by rw [HR.out]; rfl) HA.out (fun e => by rw [HR.out] at e; cases e)
  have hx4 : xs.length ≤ 4096 := by omega
  have hxi : ¬ (4096 : Int) < (xs.length : Int) := by omega
  have HE := Lib.hid (eachRight_any X (h1.below HA.out) o3)
  have HR0 : Hid (r = if risesT 0 xs then (if xs.any (lackB xs) then false else if os.length = (KW xs).length then ordsB (wrsL xs) 0 os else false) else false) := Lib.hid (by rw [hr]; unfold rightH; exact if_neg hx)
  have HCX : Hid (∀ W, Aft X W → Calls Try.prog 16 #[.slice p xs.length c] W (fun e w' => ∃ b n, e = .returned (.map (some b)) ∧ MC w' b n (fun q => ((cntW xs q.1 q.2 : Nat) : Int)) ∧ Aft W w')) := Lib.hid fun W hW => (countW_any W (h1.below (HA.out.trans hW)) o1 hx4 o3).mono fun e w' ⟨b, n, h1, _, h2, h3⟩ => ⟨b, n, h1, h2, h3⟩
  have HAN : Hid (∀ W b n, Aft X W → MC W b n (fun q => ((cntW xs q.1 q.2 : Nat) : Int)) → Calls Try.prog 17 #[.slice p xs.length c, .func (.func 18) #[.map (some b)] #[]] W (BoolNew (xs.any (lackB xs)) W)) := Lib.hid fun W b n hW hm =>
    anyNeeds_any (fun v => decide (((cntW xs v.t v.k : Nat) : Int) < v.n)) W rfl (enters_of Try.func18 (by kernel_rfl) rfl) (h1.below (HA.out.trans hW)) o1 o3 fun Y x hY hxo => lacks_any (hm.below hY) x.t x.k x.n hxo.1 hxo.2.1
  have HWR : Hid (∀ W, Aft X W → Calls Try.prog 20 #[.slice p xs.length c] W (fun e w' => ∃ b, e = .returned (.map (some b)) ∧ Aft W w' ∧ ∀ Y, Aft w' Y → Calls Try.prog 19 #[.slice q os.length d, .map (some b)] Y (BoolNew (if os.length = (KW xs).length then ordsB (wrsL xs) 0 os else false) Y))) := Lib.hid fun W hW => (writersOf_any W (h1.below (HA.out.trans hW)) o1 hx4 o3).mono fun e w' ⟨base, b, n, ks, e1, e2, _, e3, e4, e5, e6⟩ => ⟨b, e1, e6, fun Y hY => by
    rw [← keys_len e4 e5]
    exact ordersRight_any Y (h2.below ((HA.out.trans hW).trans (e6.trans hY))) o2 o4 (e3.below hY) e2 (wrs_bd o1)⟩
  clear hr
  generalize risesT 0 xs = r1 at HE HR0
  generalize xs.any (lackB xs) = r2 at HAN HR0
  generalize (if os.length = (KW xs).length then ordsB (wrsL xs) 0 os else false) = r3 at HWR HR0
  generalize (fun q : Int × Int => ((cntW xs q.1 q.2 : Nat) : Int)) = CF at HAN HP HCX
  clear h1 h2 o1 o2 o3 o4 hx hx4
  generalize xs.length = n1 at *
  generalize os.length = n2 at *
  cases r1 with
  | false =>
    have HR : Hid (r = false) := Lib.hid (by rw [HR0.out]; rfl)
    clear HR0 HCX HAN HWR
    go_enter Try.func11, Try.ntmps11
    go_wp2_with fail
    rw [← hX]
    refine HE.out.mono ?_
    rintro e w2 ⟨rfl, ha⟩
    obtain ⟨e0, e1⟩ := HB.out _ ha
    have HA2 := Lib.hid (HA.out.trans ha)
    clear ha HB HE hX
    go_wp2_with fail
    exact HP.out _ _ (.map none) (by rw [HR.out]; rfl) HA2.out (fun e => by rw [HR.out] at e; cases e)
  | true =>
    go_enter Try.func11, Try.ntmps11
    go_wp2_with fail
    rw [← hX]
    refine HE.out.mono ?_
    rintro e w2 ⟨rfl, ha⟩
    obtain ⟨e0, e1⟩ := HB.out _ ha
    have HA2 := Lib.hid ha
    have HCX2 := Lib.hid (HCX.out _ ha)
    clear ha HE hX HCX
    go_wp2_with fail
    refine HCX2.out.mono ?_
    rintro e w3 ⟨b, n, rfl, hm, ha⟩
    have HA3 := Lib.hid ((HA2.out.trans ha).drew 1)
    have HM3 : Hid (MC w3.drew b n CF) := Lib.hid (hm.heap rfl)
    have HAN2 := Lib.hid (HAN.out _ b n HA3.out HM3.out)
    clear ha hm HCX2 HA2 e0 e1 HAN
    go_upto_region 4 with fail
    refine wp_region_held_drew (S := fun Y => Y.cell? ⟨w.heap.size, 0, none⟩ = some (.slice p n1 c) ∧ Y.cell? ⟨w.heap.size, 1, none⟩ = some (.slice q n2 d)) (by kernel_rfl) (HB.out _ HA3.out) (fun hHeld0 => ?_)
    refine wpAnyH_take (i := 0) (v := ?_) rfl (by kernel_rfl) (by kernel_rfl) (by kernel_rfl) (fun _ _ _ h => h) (Or.inl ⟨by rfl, ?yk0⟩) (by assumption) ?qk0
    case yk0 => (intro wz hSw; (try dsimp only at hSw); go_simp <;> with_reducible rfl)
    try simp only [Act.put, List.getElem_toArray, List.getElem_cons_zero, List.setIfInBounds_toArray, List.set_cons_zero, List.set_cons_succ]
    refine wpAnyH_take (i := 1) (v := ?_) rfl (by kernel_rfl) (by kernel_rfl) (by kernel_rfl) (fun _ _ _ h => h) (Or.inl ⟨by rfl, ?yk1⟩) (by assumption) ?qk1
    case yk1 => (intro wz hSw; (try dsimp only at hSw); go_simp <;> with_reducible rfl)
    try simp only [Act.put, List.getElem_toArray, List.getElem_cons_zero, List.getElem_cons_succ, List.setIfInBounds_toArray, List.set_cons_zero, List.set_cons_succ]
    refine wpAnyH_take (i := 2) (v := ?_) rfl (by kernel_rfl) (by kernel_rfl) (by kernel_rfl) (fun _ _ _ h => h) (Or.inl ⟨by rfl, ?yk2⟩) (by assumption) ?qk2
    case yk2 => (intro wz hSw; (try dsimp only at hSw); go_simp <;> with_reducible rfl)
    try simp only [Act.put, List.getElem_toArray, List.getElem_cons_zero, List.getElem_cons_succ, List.setIfInBounds_toArray, List.set_cons_zero, List.set_cons_succ]
    refine wpAnyH_take (i := 3) (v := ?_) rfl (by kernel_rfl) (by kernel_rfl) (by kernel_rfl) (fun _ _ _ h => h) (Or.inl ⟨by rfl, ?yk3⟩) (by assumption) ?qk3
    case yk3 => (intro wz hSw; (try dsimp only at hSw); go_simp <;> with_reducible rfl)
    try simp only [Act.put, List.getElem_toArray, List.getElem_cons_zero, List.getElem_cons_succ, List.setIfInBounds_toArray, List.set_cons_zero, List.set_cons_succ]
    refine wpAnyH_ready (rs := [4]) (by kernel_rfl) (by simp) ?_
    refine AllReadyH.cons rfl (fun K hK => ?_) AllReadyH.nil
    go_simp
    refine HAN2.out.mono ?_
    rintro e w4 ⟨rfl, ha⟩
    have HA4 := Lib.hid (HA3.out.trans ha)
    have HM4 := Lib.hid (HM3.out.below ha)
    clear ha HAN2
    try go_wp2_with fail
    refine hK.out _ _ (HB.out _ HA4.out) (fun hHeld1 => ?_)
    clear hK K
    try simp only [Act.put, List.getElem_toArray, List.getElem_cons_zero, List.getElem_cons_succ, List.setIfInBounds_toArray, List.set_cons_zero, List.set_cons_succ]
    refine wpAnyH_take (i := 5) (v := ?_) rfl (by kernel_rfl) (by kernel_rfl) (by kernel_rfl) (fun _ _ _ h => h) (Or.inl ⟨by rfl, ?yk5⟩) (by assumption) ?qk5
    case yk5 => (intro wz hSw; (try dsimp only at hSw); go_simp <;> with_reducible rfl)
    try simp only [Act.put, List.getElem_toArray, List.getElem_cons_zero, List.getElem_cons_succ, List.setIfInBounds_toArray, List.set_cons_zero, List.set_cons_succ]
    cases r2 with
    | true =>
      refine wpAnyH_take (i := 6) (v := undef) rfl (by kernel_rfl) (by kernel_rfl) (by kernel_rfl) (fun _ _ _ h => h) (Or.inr ⟨by rfl, rfl⟩) (by assumption) ?qs6
      try simp only [Act.put, List.getElem_toArray, List.getElem_cons_zero, List.getElem_cons_succ, List.setIfInBounds_toArray, List.set_cons_zero, List.set_cons_succ]
      refine wpAnyH_take (i := 7) (v := undef) rfl (by kernel_rfl) (by kernel_rfl) (by kernel_rfl) (fun _ _ _ h => h) (Or.inr ⟨by rfl, rfl⟩) (by assumption) ?qs7
      try simp only [Act.put, List.getElem_toArray, List.getElem_cons_zero, List.getElem_cons_succ, List.setIfInBounds_toArray, List.set_cons_zero, List.set_cons_succ]
      refine wpAnyH_take (i := 8) (v := undef) rfl (by kernel_rfl) (by kernel_rfl) (by kernel_rfl) (fun _ _ _ h => h) (Or.inr ⟨by rfl, rfl⟩) (by assumption) ?qs8
      try simp only [Act.put, List.getElem_toArray, List.getElem_cons_zero, List.getElem_cons_succ, List.setIfInBounds_toArray, List.set_cons_zero, List.set_cons_succ]
      refine wpAnyH_take (i := 9) (v := undef) rfl (by kernel_rfl) (by kernel_rfl) (by kernel_rfl) (fun _ _ _ h => h) (Or.inr ⟨by rfl, rfl⟩) (by assumption) ?qs9
      try simp only [Act.put, List.getElem_toArray, List.getElem_cons_zero, List.getElem_cons_succ, List.setIfInBounds_toArray, List.set_cons_zero, List.set_cons_succ]
      refine wpAnyH_take (i := 10) (v := undef) rfl (by kernel_rfl) (by kernel_rfl) (by kernel_rfl) (fun _ _ _ h => h) (Or.inr ⟨by rfl, rfl⟩) (by assumption) ?qs10
      try simp only [Act.put, List.getElem_toArray, List.getElem_cons_zero, List.getElem_cons_succ, List.setIfInBounds_toArray, List.set_cons_zero, List.set_cons_succ]
      refine wpAnyH_take (i := 11) (v := undef) rfl (by kernel_rfl) (by kernel_rfl) (by kernel_rfl) (fun _ _ _ h => h) (Or.inr ⟨by rfl, rfl⟩) (by assumption) ?qs11
      try simp only [Act.put, List.getElem_toArray, List.getElem_cons_zero, List.getElem_cons_succ, List.setIfInBounds_toArray, List.set_cons_zero, List.set_cons_succ]
      refine wpAnyH_take (i := 12) (v := undef) rfl (by kernel_rfl) (by kernel_rfl) (by kernel_rfl) (fun _ _ _ h => h) (Or.inr ⟨by rfl, rfl⟩) (by assumption) ?qs12
      try simp only [Act.put, List.getElem_toArray, List.getElem_cons_zero, List.getElem_cons_succ, List.setIfInBounds_toArray, List.set_cons_zero, List.set_cons_succ]
      refine wpAnyH_take (i := 13) (v := ?_) rfl (by kernel_rfl) (by kernel_rfl) (by kernel_rfl) (fun _ _ _ h => h) (Or.inl ⟨by rfl, ?ys13⟩) (by assumption) ?qs13
      case ys13 => (intro wz hSw; (try dsimp only at hSw); go_simp <;> with_reducible rfl)
      try simp only [Act.put, List.getElem_toArray, List.getElem_cons_zero, List.getElem_cons_succ, List.setIfInBounds_toArray, List.set_cons_zero, List.set_cons_succ]
      refine wpAnyH_done (by kernel_rfl) ?_ _
      clear hHeld0 hHeld1
      have HR : Hid (r = false) := Lib.hid (by rw [HR0.out]; rfl)
      clear HR0 HWR HB
      go_wp2_with fail
      exact HP.out _ _ (.map none) (by rw [HR.out]; rfl) (HA.out.trans HA4.out) (fun e => by rw [HR.out] at e; cases e)
    | false =>
      refine wpAnyH_take (i := 6) (v := ?_) rfl (by kernel_rfl) (by kernel_rfl) (by kernel_rfl) (fun _ _ _ h => h) (Or.inl ⟨by rfl, ?yt6⟩) (by assumption) ?qt6
      case yt6 => (intro wz hSw; (try dsimp only at hSw); go_simp <;> with_reducible rfl)
      try simp only [Act.put, List.getElem_toArray, List.getElem_cons_zero, List.getElem_cons_succ, List.setIfInBounds_toArray, List.set_cons_zero, List.set_cons_succ]
      refine wpAnyH_take (i := 7) (v := ?_) rfl (by kernel_rfl) (by kernel_rfl) (by kernel_rfl) (fun _ _ _ h => h) (Or.inl ⟨by rfl, ?yt7⟩) (by assumption) ?qt7
      case yt7 => (intro wz hSw; (try dsimp only at hSw); go_simp <;> with_reducible rfl)
      try simp only [Act.put, List.getElem_toArray, List.getElem_cons_zero, List.getElem_cons_succ, List.setIfInBounds_toArray, List.set_cons_zero, List.set_cons_succ]
      refine wpAnyH_take (i := 8) (v := ?_) rfl (by kernel_rfl) (by kernel_rfl) (by kernel_rfl) (fun _ _ _ h => h) (Or.inl ⟨by rfl, ?yt8⟩) (by assumption) ?qt8
      case yt8 => (intro wz hSw; (try dsimp only at hSw); go_simp <;> with_reducible rfl)
      try simp only [Act.put, List.getElem_toArray, List.getElem_cons_zero, List.getElem_cons_succ, List.setIfInBounds_toArray, List.set_cons_zero, List.set_cons_succ]
      refine wpAnyH_take (i := 9) (v := ?_) rfl (by kernel_rfl) (by kernel_rfl) (by kernel_rfl) (fun _ _ _ h => h) (Or.inl ⟨by rfl, ?yt9⟩) (by assumption) ?qt9
      case yt9 => (intro wz hSw; (try dsimp only at hSw); go_simp <;> with_reducible rfl)
      try simp only [Act.put, List.getElem_toArray, List.getElem_cons_zero, List.getElem_cons_succ, List.setIfInBounds_toArray, List.set_cons_zero, List.set_cons_succ]
      refine wpAnyH_ready (rs := [10]) (by kernel_rfl) (by simp) ?_
      refine AllReadyH.cons rfl (fun K hK => ?_) AllReadyH.nil
      go_simp
      refine (HWR.out _ HA4.out).mono ?_
      rintro e w5 ⟨bw, rfl, ha, ho⟩
      have HA5 := Lib.hid (HA4.out.trans ha)
      have HM5 := Lib.hid (HM4.out.below ha)
      have HO5 := Lib.hid (ho _ (Aft.refl _))
      clear ha ho HWR
      try go_wp2_with fail
      refine hK.out _ _ (HB.out _ HA5.out) (fun hHeld2 => ?_)
      clear hK K
      try simp only [Act.put, List.getElem_toArray, List.getElem_cons_zero, List.getElem_cons_succ, List.setIfInBounds_toArray, List.set_cons_zero, List.set_cons_succ]
      refine wpAnyH_ready (rs := [11]) (by kernel_rfl) (by simp) ?_
      refine AllReadyH.cons rfl (fun K hK => ?_) AllReadyH.nil
      go_simp
      refine HO5.out.mono ?_
      rintro e w6 ⟨rfl, ha⟩
      have HA6 := Lib.hid (HA5.out.trans ha)
      have HM6 := Lib.hid (HM5.out.below ha)
      clear ha HO5
      try go_wp2_with fail
      refine hK.out _ _ (HB.out _ HA6.out) (fun hHeld3 => ?_)
      clear hK K
      try simp only [Act.put, List.getElem_toArray, List.getElem_cons_zero, List.getElem_cons_succ, List.setIfInBounds_toArray, List.set_cons_zero, List.set_cons_succ]
      refine wpAnyH_take (i := 12) (v := ?_) rfl (by kernel_rfl) (by kernel_rfl) (by kernel_rfl) (fun _ _ _ h => h) (Or.inl ⟨by rfl, ?yt12⟩) (by assumption) ?qt12
      case yt12 => (intro wz hSw; (try dsimp only at hSw); go_simp <;> with_reducible rfl)
      try simp only [Act.put, List.getElem_toArray, List.getElem_cons_zero, List.getElem_cons_succ, List.setIfInBounds_toArray, List.set_cons_zero, List.set_cons_succ]
      refine wpAnyH_take (i := 13) (v := ?_) rfl (by kernel_rfl) (by kernel_rfl) (by kernel_rfl) (fun _ _ _ h => h) (Or.inl ⟨by rfl, ?yt13⟩) (by assumption) ?qt13
      case yt13 => (intro wz hSw; (try dsimp only at hSw); go_simp <;> with_reducible rfl)
      try simp only [Act.put, List.getElem_toArray, List.getElem_cons_zero, List.getElem_cons_succ, List.setIfInBounds_toArray, List.set_cons_zero, List.set_cons_succ]
      refine wpAnyH_done (by kernel_rfl) ?_ _
      clear hHeld0 hHeld1 hHeld2 hHeld3 HB
      have HR : Hid (r = r3) := Lib.hid (by rw [HR0.out]; rfl)
      clear HR0
      cases r3 with
      | false =>
        go_wp2_with fail
        exact HP.out _ _ (.map none) (by rw [HR.out]; rfl) (HA.out.trans HA6.out) (fun e => by rw [HR.out] at e; cases e)
      | true =>
        go_wp2_with fail
        exact HP.out _ _ (.map (some b)) (by rw [HR.out]; rfl) (HA.out.trans HA6.out) (fun _ => ⟨b, n, rfl, HM6.out⟩)
set_option maxRecDepth 100000 in
set_option maxHeartbeats 4000000 in
theorem right_any {v u : Value} {h : Hist} (w : World) (hh : HistV w v u h) (ho : HistOk h) : Calls Try.prog 7 #[.agg #[v, u]] w (BoolNew (rightH h) w) := by
  obtain ⟨p, c, hv, _⟩ := hh.1.form
  obtain ⟨q, d, hu, _⟩ := hh.2.form
  obtain ⟨X, hX⟩ : ∃ X, X = w.alloc (.cells #[v, u] 25) := ⟨_, rfl⟩
  have HA : Hid (Aft w X) := Lib.hid (by rw [hX]; exact Aft.one _)
  have HL := Lib.hid (look_any X (hh.below HA.out) ho)
  subst hv hu
  generalize h.txs.length = n1 at *
  generalize h.ords.length = n2 at *
  clear hh ho
  go_enter Try.func7, Try.ntmps7
  go_wp2_with fail
  rw [← hX]
  refine HL.out.mono ?_
  rintro e w2 ⟨mv, rfl, ha, _⟩
  have HA2 := Lib.hid (HA.out.trans ha)
  clear ha HL hX
  go_wp2_with fail
  go_ret
  exact ⟨rfl, HA2.out⟩
end Go.Proofs.Ytmgkpabagpgilaa.Hi
namespace Go.Proofs.Ytmgkpabagpgilaa.Off
open Go.ChangeShapes Go.WideShapes Go.ChangeAt Go.RowKit Base F Tx Hi
theorem sm_ok {h : Hist} (hs : HistSm h) : HistOk h := ⟨hs.txs, hs.ords, fun t ht => by have := hs.ops t ht; omega, fun o ho => by have := hs.ids o ho; omega⟩
/-- A list of reads that a call tells. -/
def BadsP (l : List Bad) (w : World) (e : Ending) (w' : World) : Prop := ∃ v1, e = .returned v1 ∧ Bads 0 w' v1 l ∧ (∃ p c, v1 = .slice p l.length c) ∧ Aft w w'
end Go.Proofs.Ytmgkpabagpgilaa.Off
