/-
  The document's Weight, Order, Has of histories. Not a statement of the seat.
-/
import Derived.Test.YtcmafmdcgkpagaaGreatHead4
import Derived.Test.YtcmafmdcgkpagaaGreatHead5
import Derived.Lib.QuietBelow
namespace Go.Proofs.YtcmafmdcgkpagaaGreat.Hi
open Go.ChangeShapes Go.WideShapes Go.ChangeAt Go.RowKit Base F Tx
/-- The order of a key. -/
def ordL : List Ordr → Int → List Int
  | [], _ => []
  | o :: l, k => if o.key = k then o.txs else ordL l k
theorem ordL_some : ∀ {l : List Ordr} {id : Int} {k : Nat}, k < l.length → (l.getD k Ordr.zero).key = id → (∀ j, j < k → (l.getD j Ordr.zero).key ≠ id) → ordL l id = (l.getD k Ordr.zero).txs
  | t :: l, id, 0, _, he, _ => by simp at he; simp [ordL, he]
  | t :: l, id, k + 1, hk, he, hn => by
    have h0 := hn 0 (by omega)
    simp at h0
    rw [ordL, if_neg h0]
    exact ordL_some (by simpa using hk) (by simpa using he) (fun j hj => by simpa using hn (j + 1) (by omega))
theorem ordL_none : ∀ {l : List Ordr} {id : Int}, (∀ j, j < l.length → (l.getD j Ordr.zero).key ≠ id) → ordL l id = []
  | [], _, _ => rfl
  | t :: l, id, hn => by
    have h0 := hn 0 (by simp)
    simp at h0
    rw [ordL, if_neg h0]
    exact ordL_none (fun j hj => by simpa using hn (j + 1) (by simpa using hj))
/-- What Order tells. -/
def IdsP (l : List Int) (w : World) (e : Ending) (w' : World) : Prop := ∃ s, e = .returned s ∧ IdsV w' s l ∧ Aft w w'
set_option maxRecDepth 100000 in
set_option maxHeartbeats 4000000 in
theorem rorder_any {v u : Value} {h : Hist} (key : Int) (w : World) (hh : HistV w v u h) : Calls Tryz.prog 31 #[.agg #[v, u], .int .i64 key] w (IdsP (ordL h.ords key) w) := by
  obtain ⟨xs, os⟩ := h
  obtain ⟨h1, h2⟩ := hh
  simp only at h1 h2 ⊢
  obtain ⟨p, c, rfl, _, hlm⟩ := h2.form
  have HT : Hid (Ords w (.slice p os.length c) os) := Lib.hid h2
  have HS0 : Hid (Aft w (w.alloc (.cells #[v, .slice p os.length c] 25)) ∧ ∀ j, j < 0 → (os.getD j Ordr.zero).key ≠ key) := Lib.hid ⟨(Aft.refl w).lay _, fun j hj => by omega⟩
  clear h1 h2
  go_enter Tryz.func31, Tryz.ntmps31
  go_wp2_with fail
  go_loopw [10] (fun s11 wr => ∃ k : Nat, s11 = .int .i64 (k : Int) ∧ k ≤ os.length ∧ Hid (Aft w wr ∧ ∀ j, j < k → (os.getD j Ordr.zero).key ≠ key)) (fun s11 _ => os.length - (intOf s11).toNat)
  case atStart => exact ⟨0, rfl, Nat.zero_le _, HS0⟩
  case round =>
    clear HS0
    obtain ⟨k, rfl, hk, HS⟩ := hrel
    by_cases hlt : k < os.length
    · obtain ⟨g, o, sp, sc, rfl, hg, c0, c1, hs⟩ := HT.out.at_ hlt
      have c0 := HS.out.1.cell hg c0
      have c1 := HS.out.1.cell hg c1
      have hg := Nat.lt_of_lt_of_le hg HS.out.1.size
      have HF := Lib.hid (fun he : (os.getD k Ordr.zero).key = key => ordL_some hlt he HS.out.2)
      have HN := Lib.hid (fun he : (os.getD k Ordr.zero).key ≠ key => show ∀ j, j < k + 1 → (os.getD j Ordr.zero).key ≠ key from fun j hj => if h : j = k then h ▸ he else HS.out.2 j (by omega))
      have HO := Lib.hid hs
      have hkI : (k : Int) < (os.length : Int) := by omega
      have HSA := Lib.hid HS.out.1
      generalize os.getD k Ordr.zero = t at c0 c1 HF HN HO
      obtain ⟨ti, tl⟩ := t
      simp only at c0 c1 HF HN HO
      clear hs HS HT
      have HB : Hid (Aft w (wr.alloc (.cells #[.int .i64 ti, .slice sp tl.length sc] 45))) := Lib.hid (HSA.out.lay _)
      obtain ⟨tn, htn⟩ : ∃ n, n = tl.length := ⟨_, rfl⟩
      rw [← htn] at c1 HO HB
      clear htn
      by_cases he : ti = key
      · have he' : (ti == key) = true := by rw [beq_iff_eq]; exact he
        have HFE := Lib.hid (HF.out he)
        clear he HF HN HSA
        go_wp2_with fail
        go_ret
        exact ⟨_, rfl, by rw [HFE.out]; exact HO.out.below HB.out, HB.out⟩
      · have he' : (ti == key) = false := by rw [beq_eq_false_iff_ne]; exact he
        have HR := Lib.hid (And.intro HB.out (HN.out he))
        clear he HF HN HSA HB HO
        go_wp2_with fail
        go_roundw
        case rel => exact ⟨k + 1, by go_num, hlt, HR⟩
        case measure => simp [intOf]; omega
    · have hke : k = os.length := by omega
      subst hke
      have HFE := Lib.hid (ordL_none HS.out.2)
      have HA := Lib.hid HS.out.1
      clear HS HT hlt hk
      go_wp2_with fail
      go_ret
      exact ⟨_, rfl, by rw [HFE.out]; exact ⟨⟨none, 0, rfl, Nat.le_refl _⟩, .inl ⟨⟨none, 0, rfl⟩, rfl⟩⟩, HA.out⟩
end Go.Proofs.YtcmafmdcgkpagaaGreat.Hi
