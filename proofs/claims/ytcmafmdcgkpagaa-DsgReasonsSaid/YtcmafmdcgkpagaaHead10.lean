/-
  Contracts of small functions, several texts laid into one. Not a statement of the seat.
-/
import Derived.Test.YtcmafmdcgkpagaaHiR3
import Derived.Deep.Cut
import Derived.Deep.CutRange
import Derived.Deep.DeepCutAuto
import Derived.Shelf.Abstract
import Derived.Test.YtcmafmdcgkpagaaLstAp
namespace Go.Proofs.Ytcmafmdcgkpagaa.Hi
open Go.ChangeShapes Go.WideShapes Go.ChangeAt Go.RowKit Base F Tx
/-- Where a test holds first; -1: nowhere. -/
def idxF {α : Type} (P : α → Bool) : List α → Nat → Int
  | [], _ => -1
  | x :: l, k => if P x then (k : Int) else idxF P l (k + 1)
theorem idxF_at {α : Type} [Inhabited α] (P : α → Bool) (z : α) : ∀ (xs : List α) (k0 k : Nat), k < xs.length → P (xs.getD k z) = true → (∀ j, j < k → P (xs.getD j z) = false) → idxF P xs k0 = ((k0 + k : Nat) : Int)
  | [], _, k, hk, _, _ => by simp at hk
  | x :: xs, k0, 0, _, hv, _ => by
    rw [idxF, if_pos (by simpa using hv)]; simp
  | x :: xs, k0, k + 1, hk, hv, hj => by
    have h0 := hj 0 (by omega)
    simp at h0
    rw [idxF, if_neg (by rw [h0]; decide), idxF_at P z xs (k0 + 1) k (by simpa using hk) (by simpa using hv) (fun j hj' => by simpa using hj (j + 1) (by omega))]
    omega
theorem idxF_no {α : Type} (P : α → Bool) (z : α) : ∀ (xs : List α) (k0 : Nat), (∀ j, j < xs.length → P (xs.getD j z) = false) → idxF P xs k0 = -1
  | [], _, _ => rfl
  | x :: xs, k0, hj => by
    have h0 := hj 0 (by simp)
    simp at h0
    rw [idxF, if_neg (by rw [h0]; decide), idxF_no P z xs (k0 + 1) (fun j hj' => by simpa using hj (j + 1) (by simpa using hj'))]
theorem idxF_atV {α : Type} (P : α → Bool) (z : α) (xs : List α) (k0 k : Nat) (hk : k < xs.length) (hv : P (xs.getD k z) = true) (hj : ∀ j, j < k → P (xs.getD j z) = false) : idxF P xs k0 = ((k0 + k : Nat) : Int) := @idxF_at α ⟨z⟩ P z xs k0 k hk hv hj
theorem getD_memV {α : Type} {z : α} {l : List α} {k : Nat} (h : k < l.length) : l.getD k z ∈ l := by
  rw [List.getD_eq_getElem?_getD, List.getElem?_eq_getElem h]
  exact List.getElem_mem h
instance : Inhabited Txn := ⟨Txn.zero⟩
instance : Inhabited Ordr := ⟨Ordr.zero⟩
set_option maxRecDepth 100000 in
set_option maxHeartbeats 4000000 in
theorem index_txsM {v : Value} {xs : List Txn} (F : Nat) (lb : Array Value) (P : Txn → Bool) (eg : ∀ args w, (callFunc F args).run Try.prog w = .ok (.enter F args) w) (w : World) (h : Txs w v xs)
    (hP : ∀ (X : World) (x : Txn) (sp : Option Addr) (sc : Nat), Aft w X → x ∈ xs → OpsV X (.slice sp x.ops.length sc) x.ops → Calls Try.prog F (#[.agg #[.int .i64 x.id, .bool x.dn, .slice sp x.ops.length sc]] ++ lb) X (BoolNew (P x) X)) :
    Calls Try.prog 41 #[v, .func (.func F) #[] lb] w (IntNew (idxF P xs 0) w) := by
  obtain ⟨p, c, rfl, _, hlm⟩ := h.form
  have HT := Lib.hid h
  have HP := Lib.hid hP
  have HS0 : Hid (Aft w w ∧ ∀ j, j < 0 → P (xs.getD j Txn.zero) = false) := Lib.hid ⟨Aft.refl w, fun j hj => by omega⟩
  clear h hP
  go_enter Try.func41, Try.ntmps41
  go_wp2_with fail
  go_loopw [8] (fun s8 wr => ∃ k : Nat, s8 = .int .i64 (k : Int) ∧ k ≤ xs.length ∧ Hid (Aft w wr ∧ ∀ j, j < k → P (xs.getD j Txn.zero) = false)) (fun s8 _ => xs.length - (intOf s8).toNat)
  case atStart => exact ⟨0, rfl, Nat.zero_le _, HS0⟩
  case round =>
    clear HS0
    obtain ⟨k, rfl, hk, HS⟩ := hrel
    by_cases hlt : k < xs.length
    · obtain ⟨g, o, sp, sc, rfl, hg, c0, c1, c2, hs⟩ := HT.out.at_ hlt
      have c0 := HS.out.1.cell hg c0
      have c1 := HS.out.1.cell hg c1
      have c2 := HS.out.1.cell hg c2
      have hg := Nat.lt_of_lt_of_le hg HS.out.1.size
      have HF := Lib.hid (fun he : P (xs.getD k Txn.zero) = true => idxF_at P Txn.zero xs 0 k hlt he HS.out.2)
      have HN := Lib.hid (fun he : P (xs.getD k Txn.zero) = false => show ∀ j, j < k + 1 → P (xs.getD j Txn.zero) = false from fun j hj => if h : j = k then h ▸ he else HS.out.2 j (by omega))
      have HC := Lib.hid (HP.out wr (xs.getD k Txn.zero) sp sc HS.out.1 (getD_mem hlt) (hs.below HS.out.1))
      have hkI : (k : Int) < (xs.length : Int) := by omega
      have HSA := Lib.hid HS.out.1
      generalize xs.getD k Txn.zero = t at c0 c1 c2 HF HN HC
      obtain ⟨ti, td, tl⟩ := t
      simp only at c0 c1 c2 HF HN HC
      clear hs HS HT
      generalize tl.length = tn at c2 HC
      cases he : P ⟨ti, td, tl⟩ with
      | true =>
        have HFE := Lib.hid (HF.out he)
        rw [he] at HC
        clear HF HN he
        go_upto_region 4 with fail
        repeat (first | (refine HC.out.mono ?_) | go_step)
        rintro e w' ⟨rfl, ha⟩
        have HA2 := Lib.hid (HSA.out.trans ha)
        clear ha
        go_wp2_with fail
        go_ret
        exact ⟨ret_int (by rw [HFE.out]; simp), HA2.out⟩
      | false =>
        have HR := Lib.hid (HN.out he)
        rw [he] at HC
        clear HF HN he
        go_upto_region 4 with fail
        repeat (first | (refine HC.out.mono ?_) | go_step)
        rintro e w' ⟨rfl, ha⟩
        have HA2 := Lib.hid (HSA.out.trans ha)
        clear ha
        go_wp2_with fail
        go_roundw
        case rel => exact ⟨k + 1, by go_num, hlt, Lib.hid ⟨HA2.out, HR.out⟩⟩
        case measure => simp [intOf]; omega
    · have hke : k = xs.length := by omega
      subst hke
      have HFE := Lib.hid (idxF_no P Txn.zero xs 0 HS.out.2)
      have HA := Lib.hid HS.out.1
      clear HS HT hlt hk
      go_wp2_with fail
      go_ret
      exact ⟨ret_int HFE.out.symm, HA.out⟩
theorem index_txs {v : Value} {xs : List Txn} (F : Nat) (lb : Array Value) (P : Txn → Bool) (eg : ∀ args w, (callFunc F args).run Try.prog w = .ok (.enter F args) w) (w : World) (h : Txs w v xs)
    (hP : ∀ (X : World) (x : Txn) (sp : Option Addr) (sc : Nat), Aft w X → OpsV X (.slice sp x.ops.length sc) x.ops → Calls Try.prog F (#[.agg #[.int .i64 x.id, .bool x.dn, .slice sp x.ops.length sc]] ++ lb) X (BoolNew (P x) X)) :
    Calls Try.prog 41 #[v, .func (.func F) #[] lb] w (IntNew (idxF P xs 0) w) := index_txsM F lb P eg w h fun X x sp sc hX _ ho => hP X x sp sc hX ho
set_option maxRecDepth 100000 in
set_option maxHeartbeats 4000000 in
theorem placeOf_any {v : Value} {xs : List Txn} (id : Int) (w : World) (h : Txs w v xs) : Calls Try.prog 23 #[v, .int .i64 id] w (IntNew (idxF (fun x => x.id == id) xs 0) w) := by
  have HIX : Hid (Calls Try.prog 41 #[v, .func (.func 42) #[] #[.pointer (some ⟨w.heap.size, 0, none⟩)]] (w.alloc (.cells #[.int .i64 id] 3)) (IntNew (idxF (fun x => x.id == id) xs 0) (w.alloc (.cells #[.int .i64 id] 3)))) := Lib.hid (
    index_txs 42 #[.pointer (some ⟨w.heap.size, 0, none⟩)] (fun x => x.id == id) (enters_of Try.func42 (by kernel_rfl) rfl) _ (h.below (Aft.one _)) fun X x sp sc hX _ => by
      have hi : X.heap[w.heap.size]? = some (.cells #[.int .i64 id] 3) := (hX.block _ (by simp)).trans (heap_alloc_at _ _ _ rfl)
      have hlt := heap_lt hi
      have ci : X.cell? ⟨w.heap.size, 0, none⟩ = some (.int .i64 id) := by simp [World.cell?, hi]
      obtain ⟨ti, td, tl⟩ := x
      simp only
      generalize tl.length = tn
      clear hX hi
      go_enter Try.func42, Try.ntmps42
      go_wp2
      go_ret
      exact ⟨rfl, (Aft.refl X).lay _⟩)
  have HA : Hid (Aft w (w.alloc (.cells #[.int .i64 id] 3))) := Lib.hid (Aft.one _)
  clear h
  go_enter Try.func23, Try.ntmps23
  go_wp2_with fail
  refine HIX.out.mono ?_
  rintro e w2 ⟨rfl, ha⟩
  have HA2 := Lib.hid (HA.out.trans ha)
  clear ha
  go_wp2_with fail
  go_ret
  exact ⟨rfl, HA2.out⟩
end Go.Proofs.Ytcmafmdcgkpagaa.Hi
namespace Go.Proofs.Ytcmafmdcgkpagaa.Hi
open Go.ChangeShapes Go.WideShapes Go.ChangeAt Go.RowKit Base F Tx
theorem ownOpr_form {B : Nat} {w : World} {v : Value} {zs : List Opr} (h : OwnOpr B w v zs) : ∃ p c, v = .slice p zs.length c ∧ zs.length ≤ c := by
  rcases h.2 with ⟨hv, h0⟩ | ⟨g, cap, cur, hv, _, _, hc, _⟩
  · exact ⟨none, 0, by rw [hv, h0], by omega⟩
  · exact ⟨_, cap, hv, hc⟩
/-- What a call leaves that makes operations of its own. -/
def OprNew (l : List Opr) (w : World) (e : Ending) (w' : World) : Prop := ∃ v, e = .returned v ∧ OwnOpr w.heap.size w' v l ∧ Aft w w'
theorem ownOpr_opsV {B : Nat} {w : World} {v : Value} {l : List Opr} (h : OwnOpr B w v l) (hl : l.length ≤ 1000000) : OpsV w v l := by
  refine ⟨?_, (h.list (by omega)).kept (fun g _ _ => ⟨rfl, Nat.zero_le _⟩) (Nat.le_refl _)⟩
  obtain ⟨p, c, h1, h2⟩ := ownOpr_form h
  exact ⟨p, c, h1, h2⟩
set_option maxRecDepth 100000 in
set_option maxHeartbeats 4000000 in
theorem cloneOps_any {p : Option Addr} {n c : Nat} {l : List Opr} (w : World) (hn : n = l.length) (h : Oprs 0 w (.slice p n c) l) (hl : l.length ≤ 1000000) : Calls Try.prog 43 #[.slice p n c] w (OprNew l w) := by
  have HO := Lib.hid h
  cases p with
  | none =>
    have h0 : l = [] := by
      rcases h with ⟨_, h⟩ | ⟨g, o, c', hv, _⟩
      · exact h
      · cases hv
    subst h0
    have hq : ∀ (w : World) (n c n' c' : Nat), (binOp .eql 34 (.slice none n c) (.slice none n' c')).run Try.prog w = .ok (.bool true) w := fun w n c n' c' => Lib.run_eql_slice_nil w _ _ none n c n' c' Try.underlying34
    clear h HO
    go_enter Try.func43, Try.ntmps43
    go_wp2_with fail
    go_ret
    exact ⟨_, rfl, OwnOpr.nil _ _, Aft.refl _⟩
  | some a =>
    have HW : Hid (Oprs 0 (w.alloc (.cells #[] 41)) (.slice (some a) n c) l ∧ l.length ≤ 1000000) := Lib.hid ⟨h.below ((Below.refl _ _).alloc (Nat.le_refl _) _), hl⟩
    have hq : ∀ (w : World) (n c n' c' : Nat), (binOp .eql 34 (.slice (some a) n c) (.slice none n' c')).run Try.prog w = .ok (.bool false) w := fun w n c n' c' => Lib.run_eql_slice_nil w _ _ (some a) n c n' c' Try.underlying34
    clear h HO hn
    go_enter Try.func43, Try.ntmps43
    go_wp2_with (at_builtin; go_loud (refine append_oprs rfl (.tmp 5) (.tmp 6) rfl (B := w.heap.size) (by simp) (ownOpr_empty (Nat.le_refl _) (heap_alloc_at _ _ _ rfl)) rfl HW.out.1 rfl (by have := HW.out.2; simp only [List.length_nil]; omega) ?_; intro v' w' ho hg hat; have HF := Lib.hid (And.intro ho (Below.grown ((Aft.refl w).lay (.cells #[] 41)) hg (by simp) (fun k hk => by have hk2 : some w.heap.size = some k := hk; injection hk2 with hk2; omega))); clear ho hg hat))
    go_ret
    exact ⟨_, rfl, HF.out.1, HF.out.2⟩
theorem ownOpr_mono' {B B' : Nat} {w : World} {v : Value} {zs : List Opr} (h : OwnOpr B w v zs) (hb : B' ≤ B) : OwnOpr B' w v zs := by
  refine ⟨h.1, ?_⟩
  rcases h.2 with hn | ⟨g, cap, cur, hv, hB, rest⟩
  · exact .inl hn
  · exact .inr ⟨g, cap, cur, hv, Nat.le_trans hb hB, rest⟩
/-- What a copy is. -/
def CopyP (id : Int) (d : Bool) (l : List Opr) (w : World) (e : Ending) (w' : World) : Prop := ∃ sp sc, e = .returned (.agg #[.int .i64 id, .bool d, .slice sp l.length sc]) ∧ OwnOpr w.heap.size w' (.slice sp l.length sc) l ∧ Aft w w'
set_option maxRecDepth 100000 in
set_option maxHeartbeats 4000000 in
theorem copyOf_any {p : Option Addr} {n c : Nat} {l : List Opr} (id : Int) (d : Bool) (w : World) (hn : n = l.length) (h : Oprs 0 w (.slice p n c) l) (hl : l.length ≤ 1000000) : Calls Try.prog 24 #[.agg #[.int .i64 id, .bool d, .slice p n c]] w (CopyP id d l w) := by
  obtain ⟨X0, hX0⟩ : ∃ X, X = (w.alloc (boxT id d (.slice p n c))).alloc (boxT 0 false (.slice none 0 0)) := ⟨_, rfl⟩
  have HA0 : Hid (Aft w X0) := Lib.hid (by rw [hX0]; exact ((Aft.refl w).lay _).lay _)
  have HB0 : Hid (X0.heap[w.heap.size]? = some (boxT id d (.slice p n c)) ∧ X0.heap[w.heap.size + 1]? = some (boxT 0 false (.slice none 0 0))) := Lib.hid ⟨by rw [hX0]; exact heap_alloc_lt _ _ _ _ (heap_alloc_at _ _ _ rfl), by rw [hX0]; exact heap_alloc_at _ _ _ (by simp)⟩
  have HSZ : Hid (X0.heap.size = w.heap.size + 2) := Lib.hid (by rw [hX0]; simp)
  have HC := Lib.hid (cloneOps_any X0 hn (h.below HA0.out) hl)
  have HX0 := Lib.hid (show (w.alloc (.cells #[.int .i64 id, .bool d, .slice p n c] 36)).alloc (.cells #[.int .i64 0, .bool false, .slice none 0 0] 36) = X0 from hX0.symm)
  clear hX0 h hl hn
  go_enter Try.func24, Try.ntmps24
  go_wp2_with fail
  rw [HX0.out]
  refine HC.out.mono ?_
  rintro e w3 ⟨v3, rfl, ho, ha⟩
  obtain ⟨sp, sc, hv, _⟩ := ownOpr_form ho
  subst hv
  have hb1 : w3.heap[w.heap.size]? = some (boxT id d (.slice p n c)) := (ha.block _ (heap_lt HB0.out.1)).trans HB0.out.1
  have hb2 : w3.heap[w.heap.size + 1]? = some (boxT 0 false (.slice none 0 0)) := (ha.block _ (heap_lt HB0.out.2)).trans HB0.out.2
  have hst := storedT_ops hb1 (.slice sp l.length sc)
  obtain ⟨W3, hW3⟩ : ∃ W, W = w3.setCell ⟨w.heap.size, 2, none⟩ (.slice sp l.length sc) := ⟨_, rfl⟩
  rw [← hW3] at hst
  have HO : Hid (OwnOpr (w.heap.size + 2) W3 (.slice sp l.length sc) l) := Lib.hid (ownOpr_mono' (ho.kept (row := some w.heap.size) (stored_grown hst) (.inr fun e => by have := (ho.base _ e).1; have := HSZ.out; omega)) (by have := HSZ.out; omega))
  have HA3 : Hid (Aft w W3) := Lib.hid (hst.below (HA0.out.trans ha) (Nat.le_refl _))
  have HE1 : Hid (W3.heap[w.heap.size + 1]? = some (boxT 0 false (.slice none 0 0))) := Lib.hid ((hst.2.2.2.2.2 _ (by omega)).trans hb2)
  have HE2 := Lib.hid hst.2.2.2.2.1
  obtain ⟨hlt, ⟨c0, c1, c2⟩, f0, f1, f2⟩ := cellsT hb1
  obtain ⟨_, ⟨d0, d1, d2⟩, _⟩ := cellsT HE2.out
  clear HC HX0 HB0 HA0 HSZ ho ha hb1 hb2 hst
  go_wp2_with (refine wpList_store_tx rfl (.tmp 2) (.tmp 7) rfl (w.heap.size + 1) id d sp l.length sc _ rfl rfl (by first | exact HE1.out | (rw [← hW3]; exact HE1.out)) rfl ?_; intro w4 hs4; have HS4 := Lib.hid hs4; clear hs4)
  have hs := HS4.out
  rw [← hW3] at hs
  refine bodyPost_ret (v := .agg #[.int .i64 id, .bool d, .slice sp l.length sc]) (results_tx Try.results24 _ _ (w.heap.size + 1) id d _ rfl hs.2.2.2.2.1) rfl ⟨sp, sc, rfl, ?_, hs.below HA3.out (by omega)⟩
  exact ownOpr_mono' (HO.out.kept (row := some (w.heap.size + 1)) (stored_grown hs) (.inr fun e => by have := (HO.out.base _ e).1; omega)) (by omega)
theorem idx_id : ∀ (xs : List Txn) (id : Int) (k0 : Nat), (findT xs id = none ∧ idxF (fun x : Txn => x.id == id) xs k0 = -1) ∨ ∃ k, k < xs.length ∧ findT xs id = some (xs.getD k Txn.zero) ∧ idxF (fun x : Txn => x.id == id) xs k0 = ((k0 + k : Nat) : Int)
  | [], _, _ => .inl ⟨rfl, rfl⟩
  | t :: l, id, k0 => by
    by_cases h : t.id = id
    · exact .inr ⟨0, by simp, by simp [findT, h], by simp [idxF, h]⟩
    · have hb : (t.id == id) = false := by rw [beq_eq_false_iff_ne]; exact h
      rcases idx_id l id (k0 + 1) with ⟨h1, h2⟩ | ⟨k, h1, h2, h3⟩
      · exact .inl ⟨by rw [findT, if_neg h]; exact h1, by rw [idxF, hb]; exact h2⟩
      · exact .inr ⟨k + 1, by simpa using h1, by rw [findT, if_neg h, h2]; rfl, by rw [idxF, hb]; rw [if_neg (by decide), h3]; omega⟩
set_option maxRecDepth 100000 in
set_option maxHeartbeats 4000000 in
theorem find_any {v u : Value} {h : Hist} (id : Int) (w : World) (hh : HistV w v u h) (hl : ∀ t ∈ h.txs, t.ops.length ≤ 1000000) : Calls Try.prog 9 #[.agg #[v, u], .int .i64 id] w (FindP (findT h.txs id) w) := by
  obtain ⟨xs, os⟩ := h
  obtain ⟨h1, h2⟩ := hh
  simp only at h1 h2 hl ⊢
  obtain ⟨p, c, rfl, _, hlm⟩ := h1.form
  obtain ⟨X0, hX0⟩ : ∃ X, X = (w.alloc (.cells #[.slice p xs.length c, u] 25)).alloc (boxT 0 false (.slice none 0 0)) := ⟨_, rfl⟩
  have HA0 : Hid (Aft w X0) := Lib.hid (by rw [hX0]; exact ((Aft.refl w).lay _).lay _)
  have HB0 : Hid (X0.heap[w.heap.size]? = some (.cells #[.slice p xs.length c, u] 25) ∧ X0.heap[w.heap.size + 1]? = some (boxT 0 false (.slice none 0 0))) := Lib.hid ⟨by rw [hX0]; exact heap_alloc_lt _ _ _ _ (heap_alloc_at _ _ _ rfl), by rw [hX0]; exact heap_alloc_at _ _ _ (by simp)⟩
  have HT := Lib.hid h1
  have HL := Lib.hid hl
  have HP := Lib.hid (placeOf_any id X0 (h1.below HA0.out))
  unfold boxT at hX0
  have HX0 := Lib.hid hX0.symm
  clear hX0 h1 h2 hl
  go_enter Try.func9, Try.ntmps9
  go_wp2_with fail
  rw [HX0.out]
  refine HP.out.mono ?_
  rintro e w2 ⟨rfl, ha⟩
  have HA2 := Lib.hid (HA0.out.trans ha)
  have HB2 : Hid (w2.heap[w.heap.size]? = some (.cells #[.slice p xs.length c, u] 25) ∧ w2.heap[w.heap.size + 1]? = some (boxT 0 false (.slice none 0 0))) := Lib.hid ⟨(ha.block _ (heap_lt HB0.out.1)).trans HB0.out.1, (ha.block _ (heap_lt HB0.out.2)).trans HB0.out.2⟩
  obtain ⟨e0, e1⟩ : w2.cell? ⟨w.heap.size, 0, none⟩ = some (.slice p xs.length c) ∧ w2.cell? ⟨w.heap.size, 1, none⟩ = some u := by simp [World.cell?, HB2.out.1]
  clear ha HP HX0 HB0 HA0
  rcases idx_id xs id 0 with ⟨hf, hx⟩ | ⟨k, hk, hf, hx⟩
  · rw [hx]
    have HF := Lib.hid hf
    clear hx hf HT HL
    go_wp2_with (refine wpList_store_tx rfl (.tmp 4) (.tmp 13) rfl (w.heap.size + 1) 0 false none 0 0 _ rfl rfl HB2.out.2 rfl ?_; intro w4 hst; have HST := Lib.hid hst; clear hst)
    obtain ⟨_, ⟨r0, r1, r2⟩, _⟩ := cellsT HST.out.2.2.2.2.1
    exact bodyPost_ret (v := .tuple #[.agg #[.int .i64 0, .bool false, .slice none 0 0], .bool false]) (by simp [results, Try.results9, go_sem, r0, r1, r2]) rfl ⟨stored_aft HA2.out (by omega) HST.out, by rw [HF.out]⟩
  · rw [hx, Nat.zero_add]
    have HF := Lib.hid hf
    obtain ⟨g, o, sp, sc, rfl, hg, c0, c1, c2, hs⟩ := HT.out.at_ hk
    have c0 := HA2.out.cell hg c0
    have c1 := HA2.out.cell hg c1
    have c2 := HA2.out.cell hg c2
    have hg := Nat.lt_of_lt_of_le hg HA2.out.size
    have HLK := Lib.hid (HL.out _ (getD_mem hk))
    have hkI : (k : Int) < (xs.length : Int) := by omega
    have hk0 : ¬ (k : Int) < 0 := by omega
    clear hf
    generalize xs.getD k Txn.zero = t at c0 c1 c2 HLK hs HF
    obtain ⟨ti, td, tl⟩ := t
    simp only at c0 c1 c2 HLK hs
    have HCP := Lib.hid (copyOf_any ti td w2 rfl ((hs.below HA2.out).2) HLK.out)
    have HLL := Lib.hid HLK.out
    obtain ⟨tn, htn⟩ : ∃ n, n = tl.length := ⟨_, rfl⟩
    rw [← htn] at c2 HCP
    have HTN := Lib.hid htn
    clear hx hs HT HL htn hk
    go_wp2_with fail
    refine HCP.out.mono ?_
    rintro e w3 ⟨sp2, sc2, rfl, ho, ha⟩
    have HB3 := Lib.hid ((ha.block _ (heap_lt HB2.out.2)).trans HB2.out.2)
    have HA3 := Lib.hid (HA2.out.trans ha)
    have HO3 := Lib.hid (ownOpr_opsV ho (by have := HLL.out; omega))
    have HO4 : Hid (∀ w4, Stored w3 (w.heap.size + 1) (boxT ti td (.slice sp2 tl.length sc2)) w4 → OpsV w4 (.slice sp2 tl.length sc2) tl) := Lib.hid fun w4 hst => ownOpr_opsV (ho.kept (row := some (w.heap.size + 1)) (stored_grown hst) (.inr fun e => by have := (ho.base _ e).1; have := heap_lt HB2.out.2; omega)) (by have := HLL.out; omega)
    clear ho ha HCP HB2 c0 c1 c2
    obtain ⟨tn2, htn2⟩ : ∃ n, n = tl.length := ⟨_, rfl⟩
    rw [← htn2] at HO4 HO3
    have HTN2 := Lib.hid htn2
    go_wp2_with (refine wpList_store_tx rfl (.tmp 4) (.tmp 19) rfl (w.heap.size + 1) ti td sp2 tl.length sc2 _ rfl rfl HB3.out rfl ?_; intro w4 hst; have HST := Lib.hid hst; clear hst)
    obtain ⟨_, ⟨r0, r1, r2⟩, _⟩ := cellsT HST.out.2.2.2.2.1
    exact bodyPost_ret (v := .tuple #[.agg #[.int .i64 ti, .bool td, .slice sp2 tl.length sc2], .bool true]) (by simp [results, Try.results9, go_sem, r0, r1, r2]) rfl ⟨stored_aft HA3.out (by omega) HST.out, by
      rw [HF.out]
      exact ⟨sp2, sc2, rfl, by have := HO4.out w4 (by rw [HTN2.out]; exact HST.out); rw [HTN2.out] at this; exact this⟩⟩
end Go.Proofs.Ytcmafmdcgkpagaa.Hi
