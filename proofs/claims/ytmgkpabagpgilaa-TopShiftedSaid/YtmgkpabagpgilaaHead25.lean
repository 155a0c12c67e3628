/-
  Contracts of small functions, several texts laid into one. Not a statement of the seat.
-/
import Derived.Test.YtmgkpabagpgilaaHead19
import Derived.Test.YtmgkpabagpgilaaHead7
import Derived.Test.YtmgkpabagpgilaaHead11
namespace Go.Proofs.Ytmgkpabagpgilaa.Hi
open Go.ChangeShapes Go.WideShapes Go.ChangeAt Go.RowKit Base F Tx Go.Sort
theorem idx_any {α : Type} (P : α → Bool) : ∀ (l : List α) (k : Nat), decide (0 ≤ idxF P l k) = l.any P
  | [], k => rfl
  | x :: l, k => by
    rw [idxF, List.any_cons]
    cases h : P x with
    | true => simp
    | false => simpa using idx_any P l (k + 1)
theorem needs_memV {id : Int} : ∀ (l : List Opr) (acc : List Ver) (v : Ver), v ∈ l.foldl (needStep id) acc → v ∈ acc ∨ ∃ o ∈ l, v = ⟨o.t, o.k, o.n⟩
  | [], _, _, h => .inl h
  | o :: l, acc, v, h => by
    rcases needs_memV l (needStep id acc o) v h with h1 | ⟨o', h1, h2⟩
    · unfold needStep at h1
      split at h1
      · rename_i hn
        rcases List.mem_append.1 h1 with h1 | h1
        · exact .inl h1
        · simp only [List.mem_singleton] at h1
          unfold need at hn
          simp only [Bool.and_eq_true, decide_eq_true_eq] at hn
          exact .inr ⟨o, List.mem_cons_self, by rw [h1, verO, if_pos hn.1.1.1]⟩
      · exact .inl h1
    · exact .inr ⟨o', List.mem_cons_of_mem _ h1, h2⟩
def Ver.ok (v : Ver) : Prop := i64 v.t ∧ i64 v.k ∧ i64 v.n
set_option maxRecDepth 100000 in
set_option maxHeartbeats 4000000 in
theorem index_vers {base : Nat} {v : Value} {xs : List Ver} (F : Nat) (bd lb : Array Value) (P : Ver → Bool) (eg : ∀ args w, (callFunc F args).run Try.prog w = .ok (.enter F args) w) (w : World) (h : Vers base w v xs)
    (hP : ∀ (X : World) (x : Ver), Aft w X → x ∈ xs → Calls Try.prog F (bd ++ #[.agg #[.int .i64 x.t, .int .i64 x.k, .int .i64 x.n]] ++ lb) X (BoolNew (P x) X)) :
    Calls Try.prog 45 #[v, .func (.func F) bd lb] w (IntNew (idxF P xs 0) w) := by
  obtain ⟨p, c, rfl, hlm, hc⟩ := h.open_
  have HT := Lib.hid hc
  have HP := Lib.hid hP
  have HS0 : Hid (Aft w w ∧ ∀ j, j < 0 → P (xs.getD j Ver.zero) = false) := Lib.hid ⟨Aft.refl w, fun j hj => by omega⟩
  clear h hP hc
  go_enter Try.func45, Try.ntmps45
  go_wp2_with fail
  go_loopw [8] (fun s8 wr => ∃ k : Nat, s8 = .int .i64 (k : Int) ∧ k ≤ xs.length ∧ Hid (Aft w wr ∧ ∀ j, j < k → P (xs.getD j Ver.zero) = false)) (fun s8 _ => xs.length - (intOf s8).toNat)
  case atStart => exact ⟨0, rfl, Nat.zero_le _, HS0⟩
  case round =>
    clear HS0
    obtain ⟨k, rfl, hk, HS⟩ := hrel
    by_cases hlt : k < xs.length
    · obtain ⟨g, o, rfl, _, hg, c0, c1, c2⟩ := HT.out k hlt
      have c0 := HS.out.1.cell hg c0
      have c1 := HS.out.1.cell hg c1
      have c2 := HS.out.1.cell hg c2
      have hg := Nat.lt_of_lt_of_le hg HS.out.1.size
      have HF := Lib.hid (fun he : P (xs.getD k Ver.zero) = true => idxF_atV P Ver.zero xs 0 k hlt he HS.out.2)
      have HN := Lib.hid (fun he : P (xs.getD k Ver.zero) = false => show ∀ j, j < k + 1 → P (xs.getD j Ver.zero) = false from fun j hj => if h : j = k then h ▸ he else HS.out.2 j (by omega))
      have HC := Lib.hid (HP.out wr (xs.getD k Ver.zero) HS.out.1 (getD_memV hlt))
      have hkI : (k : Int) < (xs.length : Int) := by omega
      have HSA := Lib.hid HS.out.1
      generalize xs.getD k Ver.zero = t at c0 c1 c2 HF HN HC
      obtain ⟨xt, xk, xn⟩ := t
      simp only at c0 c1 c2 HF HN HC
      clear HS HT
      cases he : P ⟨xt, xk, xn⟩ with
      | true =>
        have HFE := Lib.hid (HF.out he)
        rw [he] at HC
        clear HF HN he
        go_upto_region 4 with fail
        repeat (first | (refine HC.out.mono ?_) | go_step)
        rintro e w' ⟨rfl, ha⟩
        have HA2 := Lib.hid (HSA.out.trans ha)
        clear ha
        go_wp2_with fail
        go_ret
        exact ⟨ret_int (by rw [HFE.out]; simp), HA2.out⟩
      | false =>
        have HR := Lib.hid (HN.out he)
        rw [he] at HC
        clear HF HN he
        go_upto_region 4 with fail
        repeat (first | (refine HC.out.mono ?_) | go_step)
        rintro e w' ⟨rfl, ha⟩
        have HA2 := Lib.hid (HSA.out.trans ha)
        clear ha
        go_wp2_with fail
        go_roundw
        case rel => exact ⟨k + 1, by go_num, hlt, Lib.hid ⟨HA2.out, HR.out⟩⟩
        case measure => simp [intOf]; omega
    · have hke : k = xs.length := by omega
      subst hke
      have HFE := Lib.hid (idxF_no P Ver.zero xs 0 HS.out.2)
      have HA := Lib.hid HS.out.1
      clear HS HT hlt hk
      go_wp2_with fail
      go_ret
      exact ⟨ret_int HFE.out.symm, HA.out⟩
set_option maxRecDepth 100000 in
set_option maxHeartbeats 4000000 in
theorem contains_vers {base : Nat} {v : Value} {xs : List Ver} (F : Nat) (bd lb : Array Value) (P : Ver → Bool) (eg : ∀ args w, (callFunc F args).run Try.prog w = .ok (.enter F args) w) (w : World) (h : Vers base w v xs)
    (hP : ∀ (X : World) (x : Ver), Aft w X → x ∈ xs → Calls Try.prog F (bd ++ #[.agg #[.int .i64 x.t, .int .i64 x.k, .int .i64 x.n]] ++ lb) X (BoolNew (P x) X)) :
    Calls Try.prog 30 #[v, .func (.func F) bd lb] w (BoolNew (xs.any P) w) := by
  have HI := Lib.hid (index_vers F bd lb P eg w h hP)
  have HB := Lib.hid (idx_any P xs 0)
  generalize idxF P xs 0 = r at HI HB
  generalize xs.any P = q at HB ⊢
  obtain ⟨p, c, rfl, hlm, _⟩ := h.open_
  generalize xs.length = n at *
  clear h hP
  go_enter Try.func30, Try.ntmps30
  go_wp2_with fail
  refine HI.out.mono ?_
  rintro e w2 ⟨rfl, ha⟩
  have HA := Lib.hid ha
  clear ha HI
  go_wp2_with fail
  go_ret
  exact ⟨ret_bool HB.out, HA.out⟩
set_option maxRecDepth 100000 in
set_option maxHeartbeats 4000000 in
theorem contains_txs {v : Value} {xs : List Txn} (F : Nat) (lb : Array Value) (P : Txn → Bool) (eg : ∀ args w, (callFunc F args).run Try.prog w = .ok (.enter F args) w) (w : World) (h : Txs w v xs)
    (hP : ∀ (X : World) (x : Txn) (sp : Option Addr) (sc : Nat), Aft w X → x ∈ xs → OpsV X (.slice sp x.ops.length sc) x.ops → Calls Try.prog F (#[.agg #[.int .i64 x.id, .bool x.dn, .slice sp x.ops.length sc]] ++ lb) X (BoolNew (P x) X)) :
    Calls Try.prog 28 #[v, .func (.func F) #[] lb] w (BoolNew (xs.any P) w) := by
  have HI := Lib.hid (index_txsM F lb P eg w h hP)
  have HB := Lib.hid (idx_any P xs 0)
  generalize idxF P xs 0 = r at HI HB
  generalize xs.any P = q at HB ⊢
  obtain ⟨p, c, rfl, _, hlm⟩ := h.form
  generalize xs.length = n at *
  clear h hP
  go_enter Try.func28, Try.ntmps28
  go_wp2_with fail
  refine HI.out.mono ?_
  rintro e w2 ⟨rfl, ha⟩
  have HA := Lib.hid ha
  clear ha HI
  go_wp2_with fail
  go_ret
  exact ⟨ret_bool HB.out, HA.out⟩
end Go.Proofs.Ytmgkpabagpgilaa.Hi
namespace Go.Proofs.Ytmgkpabagpgilaa.Hi
open Go.ChangeShapes Go.WideShapes Go.ChangeAt Go.RowKit Base F Tx Go.Sort
set_option maxRecDepth 100000 in
set_option maxHeartbeats 4000000 in
theorem lacks_any {X : World} {b n : Nat} {f : Int × Int → Int} (h : MC X b n f) (t k m : Int) (ht : -9223372036854775808 ≤ t ∧ t ≤ 9223372036854775807) (hk : -9223372036854775808 ≤ k ∧ k ≤ 9223372036854775807) :
    Calls Try.prog 18 #[.map (some b), .agg #[.int .i64 t, .int .i64 k, .int .i64 m]] X (BoolNew (decide (f (t, k) < m)) X) := by
  obtain ⟨c, hc⟩ : ∃ c, c = f (t, k) := ⟨_, rfl⟩
  rw [← hc]
  have HH := Lib.hid (fun Y (hY : Aft X Y) => mc_look (h.below hY) ht hk hc.symm)
  clear h hc
  go_enter Try.func18, Try.ntmps18
  go_upto_region 1 with fail
  obtain ⟨W, hW⟩ : ∃ W, W = X.alloc (.cells #[.int .i64 t, .int .i64 k, .int .i64 m] 80) := ⟨_, rfl⟩
  rw [← hW]
  have HA : Hid (Aft X W) := Lib.hid (by rw [hW]; exact Aft.one _)
  obtain ⟨c0, c1, c2⟩ : W.drew.cell? ⟨X.heap.size, 0, none⟩ = some (.int .i64 t) ∧ W.drew.cell? ⟨X.heap.size, 1, none⟩ = some (.int .i64 k) ∧ W.drew.cell? ⟨X.heap.size, 2, none⟩ = some (.int .i64 m) := by
    have : W.drew.heap[X.heap.size]? = some (.cells #[.int .i64 t, .int .i64 k, .int .i64 m] 80) := by rw [hW]; exact heap_alloc_at _ _ _ rfl
    simp [World.cell?, this]
  have hl := HH.out _ (HA.out.drew 1)
  clear hW HH
  refine wp_region_held_drew (S := fun Y => Y.cell? ⟨X.heap.size, 0, none⟩ = some (.int .i64 t) ∧ Y.cell? ⟨X.heap.size, 1, none⟩ = some (.int .i64 k) ∧ Y.cell? ⟨X.heap.size, 2, none⟩ = some (.int .i64 m) ∧ (Instr.lookup 47 (.map (some b)) (.agg #[.int .i64 t, .int .i64 k]) false).run Try.prog Y = .ok (.int .i64 c) Y) (by kernel_rfl) ⟨c0, c1, c2, hl⟩ (fun hHeld0 => ?_)
  clear c0 c1 c2 hl
  refine wpAnyH_take (i := 0) (v := ?_) rfl (by kernel_rfl) (by kernel_rfl) (by kernel_rfl) (fun _ _ _ h => h) (Or.inl ⟨by rfl, ?yl0⟩) (by assumption) ?ql0
  case yl0 => (intro wz hSw; (try dsimp only at hSw); go_simp <;> with_reducible rfl)
  try simp only [Act.put, List.getElem_toArray, List.getElem_cons_zero, List.setIfInBounds_toArray, List.set_cons_zero, List.set_cons_succ]
  refine wpAnyH_take (i := 1) (v := ?_) rfl (by kernel_rfl) (by kernel_rfl) (by kernel_rfl) (fun _ _ _ h => h) (Or.inl ⟨by rfl, ?yl1⟩) (by assumption) ?ql1
  case yl1 => (intro wz hSw; (try dsimp only at hSw); go_simp <;> with_reducible rfl)
  try simp only [Act.put, List.getElem_toArray, List.getElem_cons_zero, List.getElem_cons_succ, List.setIfInBounds_toArray, List.set_cons_zero, List.set_cons_succ]
  refine wpAnyH_take (i := 2) (v := ?_) rfl (by kernel_rfl) (by kernel_rfl) (by kernel_rfl) (fun _ _ _ h => h) (Or.inl ⟨by rfl, ?yl2⟩) (by assumption) ?ql2
  case yl2 => (intro wz hSw; (try dsimp only at hSw); go_simp <;> with_reducible rfl)
  try simp only [Act.put, List.getElem_toArray, List.getElem_cons_zero, List.getElem_cons_succ, List.setIfInBounds_toArray, List.set_cons_zero, List.set_cons_succ]
  refine wpAnyH_take (i := 3) (v := ?_) rfl (by kernel_rfl) (by kernel_rfl) (by kernel_rfl) (fun _ _ _ h => h) (Or.inl ⟨by rfl, ?yl3⟩) (by assumption) ?ql3
  case yl3 => (intro wz hSw; (try dsimp only at hSw); go_simp <;> with_reducible rfl)
  try simp only [Act.put, List.getElem_toArray, List.getElem_cons_zero, List.getElem_cons_succ, List.setIfInBounds_toArray, List.set_cons_zero, List.set_cons_succ]
  refine wpAnyH_take (i := 4) (v := ?_) rfl (by kernel_rfl) (by kernel_rfl) (by kernel_rfl) (fun _ _ _ h => h) (Or.inl ⟨by rfl, ?yl4⟩) (by assumption) ?ql4
  case yl4 => (intro wz hSw; (try dsimp only at hSw); go_simp <;> with_reducible rfl)
  try simp only [Act.put, List.getElem_toArray, List.getElem_cons_zero, List.getElem_cons_succ, List.setIfInBounds_toArray, List.set_cons_zero, List.set_cons_succ]
  refine wpAnyH_take (i := 5) (v := ?_) rfl (by kernel_rfl) (by kernel_rfl) (by kernel_rfl) (fun _ _ _ h => h) (Or.inl ⟨by rfl, ?yl5⟩) (by assumption) ?ql5
  case yl5 => (intro wz hSw; (try dsimp only at hSw); go_simp <;> with_reducible rfl)
  try simp only [Act.put, List.getElem_toArray, List.getElem_cons_zero, List.getElem_cons_succ, List.setIfInBounds_toArray, List.set_cons_zero, List.set_cons_succ]
  refine wpAnyH_take (i := 6) (v := ?_) rfl (by kernel_rfl) (by kernel_rfl) (by kernel_rfl) (fun _ _ _ h => h) (Or.inl ⟨by rfl, ?yl6⟩) (by assumption) ?ql6
  case yl6 => (intro wz hSw; (try dsimp only at hSw); go_simp <;> with_reducible rfl)
  try simp only [Act.put, List.getElem_toArray, List.getElem_cons_zero, List.getElem_cons_succ, List.setIfInBounds_toArray, List.set_cons_zero, List.set_cons_succ]
  refine wpAnyH_take (i := 7) (v := ?_) rfl (by kernel_rfl) (by kernel_rfl) (by kernel_rfl) (fun _ _ _ h => h) (Or.inl ⟨by rfl, ?yl7⟩) (by assumption) ?ql7
  case yl7 => (intro wz hSw; (try dsimp only at hSw); go_simp <;> with_reducible rfl)
  try simp only [Act.put, List.getElem_toArray, List.getElem_cons_zero, List.getElem_cons_succ, List.setIfInBounds_toArray, List.set_cons_zero, List.set_cons_succ]
  refine wpAnyH_take (i := 8) (v := ?_) rfl (by kernel_rfl) (by kernel_rfl) (by kernel_rfl) (fun _ _ _ h => h) (Or.inl ⟨by rfl, ?yl8⟩) (by assumption) ?ql8
  case yl8 => (intro wz hSw; (try dsimp only at hSw); go_simp <;> with_reducible rfl)
  try simp only [Act.put, List.getElem_toArray, List.getElem_cons_zero, List.getElem_cons_succ, List.setIfInBounds_toArray, List.set_cons_zero, List.set_cons_succ]
  refine wpAnyH_take (i := 9) (v := ?_) rfl (by kernel_rfl) (by kernel_rfl) (by kernel_rfl) (fun _ _ _ h => h) (Or.inl ⟨by rfl, ?yl9⟩) (by assumption) ?ql9
  case yl9 => (intro wz hSw; (try dsimp only at hSw); go_simp <;> with_reducible rfl)
  try simp only [Act.put, List.getElem_toArray, List.getElem_cons_zero, List.getElem_cons_succ, List.setIfInBounds_toArray, List.set_cons_zero, List.set_cons_succ]
  refine wpAnyH_take (i := 10) (v := ?_) rfl (by kernel_rfl) (by kernel_rfl) (by kernel_rfl) (fun _ _ _ h => h) (Or.inl ⟨by rfl, ?yl10⟩) (by assumption) ?ql10
  case yl10 => (intro wz hSw; (try dsimp only at hSw); go_simp <;> with_reducible rfl)
  try simp only [Act.put, List.getElem_toArray, List.getElem_cons_zero, List.getElem_cons_succ, List.setIfInBounds_toArray, List.set_cons_zero, List.set_cons_succ]
  refine wpAnyH_done (by kernel_rfl) ?_ _
  clear hHeld0
  go_wp2_with fail
  go_ret
  exact ⟨rfl, HA.out.drew 1⟩
set_option maxRecDepth 100000 in
set_option maxHeartbeats 8000000 in
theorem anyNeeds1_any {fv : Value} {X : World} {b1 : Nat} {F : Nat} {bd lb : Array Value} (P : Ver → Bool) (hfv : fv = .func (.func F) bd lb) (eg : ∀ args w, (callFunc F args).run Try.prog w = .ok (.enter F args) w) (hb1 : X.heap[b1]? = some (.cells #[fv] 58))
    (hP : ∀ (Y : World) (x : Ver), Aft X Y → Ver.ok x → Calls Try.prog F (bd ++ #[.agg #[.int .i64 x.t, .int .i64 x.k, .int .i64 x.n]] ++ lb) Y (BoolNew (P x) Y)) (id : Int) (d : Bool) {sp : Option Addr} {sc : Nat} {l : List Opr} (ho : OpsV X (.slice sp l.length sc) l) (hok : ∀ o ∈ l, Opr.ok o) (hl : l.length ≤ 100000) :
    Calls Try.prog 29 #[.agg #[.int .i64 id, .bool d, .slice sp l.length sc], .pointer (some ⟨b1, 0, none⟩)] X (BoolNew ((needsL id l).any P) X) := by
  obtain ⟨W, hW⟩ : ∃ W, W = X.alloc (boxT id d (.slice sp l.length sc)) := ⟨_, rfl⟩
  have HA : Hid (Aft X W) := Lib.hid (by rw [hW]; exact Aft.one _)
  have HB : Hid (∀ Y, Aft W Y → Y.heap[X.heap.size]? = some (boxT id d (.slice sp l.length sc)) ∧ Y.heap[b1]? = some (.cells #[fv] 58)) := Lib.hid fun Y hY => by
    have e1 : W.heap[X.heap.size]? = some (boxT id d (.slice sp l.length sc)) := by rw [hW]; exact heap_alloc_at _ _ _ rfl
    have e2 : W.heap[b1]? = some (.cells #[fv] 58) := by rw [hW]; exact heap_alloc_lt _ _ _ _ hb1
    exact ⟨(hY.block _ (heap_lt e1)).trans e1, (hY.block _ (heap_lt e2)).trans e2⟩
  have HN := Lib.hid (needs_any id d W.drew ((ho.below (HA.out.drew 1)).2) hok hl)
  have HV : Hid (∀ v ∈ needsL id l, Ver.ok v) := Lib.hid fun v hv => by
    rcases needs_memV l [] v hv with h1 | ⟨o, h1, rfl⟩
    · cases h1
    · exact ⟨(hok o h1).2.1, (hok o h1).1, (hok o h1).2.2⟩
  have HNL : Hid ((needsL id l).length ≤ 100000) := Lib.hid (Nat.le_trans (needs_len id l) hl)
  have HC : Hid (∀ Y v, Aft W Y → OwnVer W.drew.heap.size Y v (needsL id l) → Calls Try.prog 30 #[v, fv] Y (BoolNew ((needsL id l).any P) Y)) := Lib.hid fun Y v hY hv => by
    rw [hfv]
    exact contains_vers F bd lb P eg Y (hv.list (by have := HNL.out; omega)) fun Z x hZ hx => hP Z x ((HA.out.trans hY).trans hZ) (HV.out x hx)
  generalize needsL id l = nl at HN HV HC HNL ⊢
  generalize nl.any P = r at HC ⊢
  generalize l.length = n at *
  clear ho hok hl hP hfv hb1 eg
  have HCELL : Hid (∀ Y, Aft W Y → (Y.cell? ⟨X.heap.size, 0, none⟩ = some (.int .i64 id) ∧ Y.cell? ⟨X.heap.size, 1, none⟩ = some (.bool d) ∧ Y.cell? ⟨X.heap.size, 2, none⟩ = some (.slice sp n sc)) ∧ Y.cell? ⟨b1, 0, none⟩ = some fv) := Lib.hid fun Y hY => ⟨(cellsT (HB.out Y hY).1).2.1, by simp [World.cell?, (HB.out Y hY).2]⟩
  clear HB
  go_enter Try.func29, Try.ntmps29
  go_upto_region 1 with fail
  unfold boxT at hW
  rw [← hW]
  clear hW
  refine wp_region_held_drew (S := fun Y => (Y.cell? ⟨X.heap.size, 0, none⟩ = some (.int .i64 id) ∧ Y.cell? ⟨X.heap.size, 1, none⟩ = some (.bool d) ∧ Y.cell? ⟨X.heap.size, 2, none⟩ = some (.slice sp n sc)) ∧ Y.cell? ⟨b1, 0, none⟩ = some fv) (by kernel_rfl) (HCELL.out _ ((Aft.refl W).drew 1)) (fun hHeld0 => ?_)
  refine wpAnyH_take (i := 0) (v := ?_) rfl (by kernel_rfl) (by kernel_rfl) (by kernel_rfl) (fun _ _ _ h => h) (Or.inl ⟨by rfl, ?yn0⟩) (by assumption) ?qn0
  case yn0 => (intro wz hSw; (try dsimp only at hSw); go_simp <;> with_reducible rfl)
  try simp only [Act.put, List.getElem_toArray, List.getElem_cons_zero, List.setIfInBounds_toArray, List.set_cons_zero, List.set_cons_succ]
  refine wpAnyH_take (i := 2) (v := ?_) rfl (by kernel_rfl) (by kernel_rfl) (by kernel_rfl) (fun _ _ _ h => h) (Or.inl ⟨by rfl, ?yn2⟩) (by assumption) ?qn2
  case yn2 => (intro wz hSw; (try dsimp only at hSw); go_simp <;> with_reducible rfl)
  try simp only [Act.put, List.getElem_toArray, List.getElem_cons_zero, List.getElem_cons_succ, List.setIfInBounds_toArray, List.set_cons_zero, List.set_cons_succ]
  refine wpAnyH_ready (rs := [1]) (by kernel_rfl) (by simp) ?_
  refine AllReadyH.cons rfl (fun K hK => ?_) AllReadyH.nil
  go_simp
  refine HN.out.mono ?_
  rintro e w2 ⟨v, rfl, hv, ha⟩
  have HA2 : Hid (Aft W w2) := Lib.hid (((Aft.refl W).drew 1).trans ha)
  have HC2 := Lib.hid (HC.out w2 v HA2.out hv)
  clear ha hv HC HN HV HNL
  try go_wp2_with fail
  refine hK.out _ _ (HCELL.out _ HA2.out) (fun hHeld1 => ?_)
  clear hK K
  try simp only [Act.put, List.getElem_toArray, List.getElem_cons_zero, List.getElem_cons_succ, List.setIfInBounds_toArray, List.set_cons_zero, List.set_cons_succ]
  refine wpAnyH_ready (rs := [3]) (by kernel_rfl) (by simp) ?_
  refine AllReadyH.cons rfl (fun K hK => ?_) AllReadyH.nil
  go_simp
  refine HC2.out.mono ?_
  rintro e w3 ⟨rfl, ha⟩
  have HA3 : Hid (Aft W w3) := Lib.hid (HA2.out.trans ha)
  clear ha HC2
  try go_wp2_with fail
  refine hK.out _ _ (HCELL.out _ HA3.out) (fun hHeld2 => ?_)
  clear hK K
  try simp only [Act.put, List.getElem_toArray, List.getElem_cons_zero, List.getElem_cons_succ, List.setIfInBounds_toArray, List.set_cons_zero, List.set_cons_succ]
  refine wpAnyH_take (i := 4) (v := ?_) rfl (by kernel_rfl) (by kernel_rfl) (by kernel_rfl) (fun _ _ _ h => h) (Or.inl ⟨by rfl, ?yn4⟩) (by assumption) ?qn4
  case yn4 => (intro wz hSw; (try dsimp only at hSw); go_simp <;> with_reducible rfl)
  try simp only [Act.put, List.getElem_toArray, List.getElem_cons_zero, List.getElem_cons_succ, List.setIfInBounds_toArray, List.set_cons_zero, List.set_cons_succ]
  refine wpAnyH_done (by kernel_rfl) ?_ _
  clear hHeld0 hHeld1 hHeld2 HCELL
  go_wp2_with fail
  go_ret
  exact ⟨rfl, HA.out.trans HA3.out⟩
set_option maxRecDepth 100000 in
set_option maxHeartbeats 8000000 in
theorem anyNeeds_any {v fv : Value} {xs : List Txn} {F : Nat} {bd lb : Array Value} (P : Ver → Bool) (w : World) (hfv : fv = .func (.func F) bd lb) (eg : ∀ args w, (callFunc F args).run Try.prog w = .ok (.enter F args) w) (h : Txs w v xs) (hok : ∀ t ∈ xs, Txn.ok t) (hl : ∀ t ∈ xs, t.ops.length ≤ 100000)
    (hP : ∀ (Y : World) (x : Ver), Aft w Y → Ver.ok x → Calls Try.prog F (bd ++ #[.agg #[.int .i64 x.t, .int .i64 x.k, .int .i64 x.n]] ++ lb) Y (BoolNew (P x) Y)) :
    Calls Try.prog 17 #[v, fv] w (BoolNew (xs.any fun t => (needsL t.id t.ops).any P) w) := by
  subst hfv
  obtain ⟨W, hW⟩ : ∃ W, W = w.alloc (.cells #[.func (.func F) bd lb] 58) := ⟨_, rfl⟩
  have HA : Hid (Aft w W) := Lib.hid (by rw [hW]; exact Aft.one _)
  have HC : Hid (Calls Try.prog 28 #[v, .func (.func 29) #[] #[.pointer (some ⟨w.heap.size, 0, none⟩)]] W (BoolNew (xs.any fun t => (needsL t.id t.ops).any P) W)) := Lib.hid (
    contains_txs 29 #[.pointer (some ⟨w.heap.size, 0, none⟩)] _ (enters_of Try.func29 (by kernel_rfl) rfl) W (h.below HA.out) fun Y x sp sc hY hx ho =>
      anyNeeds1_any P rfl eg ((hY.block _ (by rw [hW]; simp)).trans (by rw [hW]; exact heap_alloc_at _ _ _ rfl)) (fun Z x hZ hx => hP Z x ((HA.out.trans hY).trans hZ) hx) x.id x.dn ho (hok x hx).2 (hl x hx))
  generalize (xs.any fun t => (needsL t.id t.ops).any P) = r at HC ⊢
  clear hP hok hl h eg
  go_enter Try.func17, Try.ntmps17
  go_wp2_with fail
  rw [← hW]
  refine HC.out.mono ?_
  rintro e w2 ⟨rfl, ha⟩
  have HA2 := Lib.hid (HA.out.trans ha)
  clear ha HC hW
  go_wp2_with fail
  go_ret
  exact ⟨rfl, HA2.out⟩
end Go.Proofs.Ytmgkpabagpgilaa.Hi
