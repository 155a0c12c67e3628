/-
  Contracts of small functions, several texts laid into one. Not a statement of the seat.
-/
import Derived.Test.YtmgkpabagpgilaaHiR3
import Derived.Deep.Cut
import Derived.Deep.CutRange
import Derived.Deep.DeepCutAuto
import Derived.Shelf.Abstract
import Derived.Test.YtmgkpabagpgilaaLstAp
namespace Go.Proofs.Ytmgkpabagpgilaa.Hi
open Go.ChangeShapes Go.WideShapes Go.ChangeAt Go.RowKit Base F Tx
/-- Where a test holds first; -1: nowhere. -/
def idxF {α : Type} (P : α → Bool) : List α → Nat → Int
  | [], _ => -1
  | x :: l, k => if P x then (k : Int) else idxF P l (k + 1)
theorem idxF_at {α : Type} [Inhabited α] (P : α → Bool) (z : α) : ∀ (xs : List α) (k0 k : Nat), k < xs.length → P (xs.getD k z) = true → (∀ j, j < k → P (xs.getD j z) = false) → idxF P xs k0 = ((k0 + k : Nat) : Int)
  | [], _, k, hk, _, _ => by simp at hk
  | x :: xs, k0, 0, _, hv, _ => by
    rw [idxF, if_pos (by simpa using hv)]; simp
  | x :: xs, k0, k + 1, hk, hv, hj => by
    have h0 := hj 0 (by omega)
    simp at h0
    rw [idxF, if_neg (by rw [h0]; decide), idxF_at P z xs (k0 + 1) k (by simpa using hk) (by simpa using hv) (fun j hj' => by simpa using hj (j + 1) (by omega))]
    omega
theorem idxF_no {α : Type} (P : α → Bool) (z : α) : ∀ (xs : List α) (k0 : Nat), (∀ j, j < xs.length → P (xs.getD j z) = false) → idxF P xs k0 = -1
  | [], _, _ => rfl
  | x :: xs, k0, hj => by
    have h0 := hj 0 (by simp)
    simp at h0
    rw [idxF, if_neg (by rw [h0]; decide), idxF_no P z xs (k0 + 1) (fun j hj' => by simpa using hj (j + 1) (by simpa using hj'))]
theorem idxF_atV {α : Type} (P : α → Bool) (z : α) (xs : List α) (k0 k : Nat) (hk : k < xs.length) (hv : P (xs.getD k z) = true) (hj : ∀ j, j < k → P (xs.getD j z) = false) : idxF P xs k0 = ((k0 + k : Nat) : Int) := @idxF_at α ⟨z⟩ P z xs k0 k hk hv hj
theorem getD_memV {α : Type} {z : α} {l : List α} {k : Nat} (h : k < l.length) : l.getD k z ∈ l := by
  rw [List.getD_eq_getElem?_getD, List.getElem?_eq_getElem h]
  exact List.getElem_mem h
instance : Inhabited Txn := ⟨Txn.zero⟩
instance : Inhabited Ordr := ⟨Ordr.zero⟩
set_option maxRecDepth 100000 in
set_option maxHeartbeats 4000000 in
theorem index_txsM {v : Value} {xs : List Txn} (F : Nat) (lb : Array Value) (P : Txn → Bool) (eg : ∀ args w, (callFunc F args).run Try.prog w = .ok (.enter F args) w) (w : World) (h : Txs w v xs)
    (hP : ∀ (X : World) (x : Txn) (sp : Option Addr) (sc : Nat), Aft w X → x ∈ xs → OpsV X (.slice sp x.ops.length sc) x.ops → Calls Try.prog F (#[.agg #[.int .i64 x.id, .bool x.dn, .slice sp x.ops.length sc]] ++ lb) X (BoolNew (P x) X)) :
    Calls Try.prog 44 #[v, .func (.func F) #[] lb] w (IntNew (idxF P xs 0) w) := by
  obtain ⟨p, c, rfl, _, hlm⟩ := h.form
  have HT := Lib.hid h
  have HP := Lib.hid hP
  have HS0 : Hid (Aft w w ∧ ∀ j, j < 0 → P (xs.getD j Txn.zero) = false) := Lib.hid ⟨Aft.refl w, fun j hj => by omega⟩
  clear h hP
  go_enter Try.func44, Try.ntmps44
  go_wp2_with fail
  go_loopw [8] (fun s8 wr => ∃ k : Nat, s8 = .int .i64 (k : Int) ∧ k ≤ xs.length ∧ Hid (Aft w wr ∧ ∀ j, j < k → P (xs.getD j Txn.zero) = false)) (fun s8 _ => xs.length - (intOf s8).toNat)
  case atStart => exact ⟨0, rfl, Nat.zero_le _, HS0⟩
  case round =>
    clear HS0
    obtain ⟨k, rfl, hk, HS⟩ := hrel
    by_cases hlt : k < xs.length
    · obtain ⟨g, o, sp, sc, rfl, hg, c0, c1, c2, hs⟩ := HT.out.at_ hlt
      have c0 := HS.out.1.cell hg c0
      have c1 := HS.out.1.cell hg c1
      have c2 := HS.out.1.cell hg c2
      have hg := Nat.lt_of_lt_of_le hg HS.out.1.size
      have HF := Lib.hid (fun he : P (xs.getD k Txn.zero) = true => idxF_at P Txn.zero xs 0 k hlt he HS.out.2)
      have HN := Lib.hid (fun he : P (xs.getD k Txn.zero) = false => show ∀ j, j < k + 1 → P (xs.getD j Txn.zero) = false from fun j hj => if h : j = k then h ▸ he else HS.out.2 j (by omega))
      have HC := Lib.hid (HP.out wr (xs.getD k Txn.zero) sp sc HS.out.1 (getD_mem hlt) (hs.below HS.out.1))
      have hkI : (k : Int) < (xs.length : Int) := by omega
      have HSA := Lib.hid HS.out.1
      generalize xs.getD k Txn.zero = t at c0 c1 c2 HF HN HC
      obtain ⟨ti, td, tl⟩ := t
      simp only at c0 c1 c2 HF HN HC
      clear hs HS HT
      generalize tl.length = tn at c2 HC
      cases he : P ⟨ti, td, tl⟩ with
      | true =>
        have HFE := Lib.hid (HF.out he)
        rw [he] at HC
        clear HF HN he
        go_upto_region 4 with fail
        repeat (first | (refine HC.out.mono ?_) | go_step)
        rintro e w' ⟨rfl, ha⟩
        have HA2 := Lib.hid (HSA.out.trans ha)
        clear ha
        go_wp2_with fail
        go_ret
        exact ⟨ret_int (by rw [HFE.out]; simp), HA2.out⟩
      | false =>
        have HR := Lib.hid (HN.out he)
        rw [he] at HC
        clear HF HN he
        go_upto_region 4 with fail
        repeat (first | (refine HC.out.mono ?_) | go_step)
        rintro e w' ⟨rfl, ha⟩
        have HA2 := Lib.hid (HSA.out.trans ha)
        clear ha
        go_wp2_with fail
        go_roundw
        case rel => exact ⟨k + 1, by go_num, hlt, Lib.hid ⟨HA2.out, HR.out⟩⟩
        case measure => simp [intOf]; omega
    · have hke : k = xs.length := by omega
      subst hke
      have HFE := Lib.hid (idxF_no P Txn.zero xs 0 HS.out.2)
      have HA := Lib.hid HS.out.1
      clear HS HT hlt hk
      go_wp2_with fail
      go_ret
      exact ⟨ret_int HFE.out.symm, HA.out⟩
theorem index_txs {v : Value} {xs : List Txn} (F : Nat) (lb : Array Value) (P : Txn → Bool) (eg : ∀ args w, (callFunc F args).run Try.prog w = .ok (.enter F args) w) (w : World) (h : Txs w v xs)
    (hP : ∀ (X : World) (x : Txn) (sp : Option Addr) (sc : Nat), Aft w X → OpsV X (.slice sp x.ops.length sc) x.ops → Calls Try.prog F (#[.agg #[.int .i64 x.id, .bool x.dn, .slice sp x.ops.length sc]] ++ lb) X (BoolNew (P x) X)) :
    Calls Try.prog 44 #[v, .func (.func F) #[] lb] w (IntNew (idxF P xs 0) w) := index_txsM F lb P eg w h fun X x sp sc hX _ ho => hP X x sp sc hX ho
end Go.Proofs.Ytmgkpabagpgilaa.Hi
namespace Go.Proofs.Ytmgkpabagpgilaa.Hi
open Go.ChangeShapes Go.WideShapes Go.ChangeAt Go.RowKit Base F Tx
theorem ownOpr_form {B : Nat} {w : World} {v : Value} {zs : List Opr} (h : OwnOpr B w v zs) : ∃ p c, v = .slice p zs.length c ∧ zs.length ≤ c := by
  rcases h.2 with ⟨hv, h0⟩ | ⟨g, cap, cur, hv, _, _, hc, _⟩
  · exact ⟨none, 0, by rw [hv, h0], by omega⟩
  · exact ⟨_, cap, hv, hc⟩
/-- What a call leaves that makes operations of its own. -/
def OprNew (l : List Opr) (w : World) (e : Ending) (w' : World) : Prop := ∃ v, e = .returned v ∧ OwnOpr w.heap.size w' v l ∧ Aft w w'
theorem ownOpr_opsV {B : Nat} {w : World} {v : Value} {l : List Opr} (h : OwnOpr B w v l) (hl : l.length ≤ 1000000) : OpsV w v l := by
  refine ⟨?_, (h.list (by omega)).kept (fun g _ _ => ⟨rfl, Nat.zero_le _⟩) (Nat.le_refl _)⟩
  obtain ⟨p, c, h1, h2⟩ := ownOpr_form h
  exact ⟨p, c, h1, h2⟩
theorem ownOpr_mono' {B B' : Nat} {w : World} {v : Value} {zs : List Opr} (h : OwnOpr B w v zs) (hb : B' ≤ B) : OwnOpr B' w v zs := by
  refine ⟨h.1, ?_⟩
  rcases h.2 with hn | ⟨g, cap, cur, hv, hB, rest⟩
  · exact .inl hn
  · exact .inr ⟨g, cap, cur, hv, Nat.le_trans hb hB, rest⟩
/-- What a copy is. -/
def CopyP (id : Int) (d : Bool) (l : List Opr) (w : World) (e : Ending) (w' : World) : Prop := ∃ sp sc, e = .returned (.agg #[.int .i64 id, .bool d, .slice sp l.length sc]) ∧ OwnOpr w.heap.size w' (.slice sp l.length sc) l ∧ Aft w w'
theorem idx_id : ∀ (xs : List Txn) (id : Int) (k0 : Nat), (findT xs id = none ∧ idxF (fun x : Txn => x.id == id) xs k0 = -1) ∨ ∃ k, k < xs.length ∧ findT xs id = some (xs.getD k Txn.zero) ∧ idxF (fun x : Txn => x.id == id) xs k0 = ((k0 + k : Nat) : Int)
  | [], _, _ => .inl ⟨rfl, rfl⟩
  | t :: l, id, k0 => by
    by_cases h : t.id = id
    · exact .inr ⟨0, by simp, by simp [findT, h], by simp [idxF, h]⟩
    · have hb : (t.id == id) = false := by rw [beq_eq_false_iff_ne]; exact h
      rcases idx_id l id (k0 + 1) with ⟨h1, h2⟩ | ⟨k, h1, h2, h3⟩
      · exact .inl ⟨by rw [findT, if_neg h]; exact h1, by rw [idxF, hb]; exact h2⟩
      · exact .inr ⟨k + 1, by simpa using h1, by rw [findT, if_neg h, h2]; rfl, by rw [idxF, hb]; rw [if_neg (by decide), h3]; omega⟩
end Go.Proofs.Ytmgkpabagpgilaa.Hi
