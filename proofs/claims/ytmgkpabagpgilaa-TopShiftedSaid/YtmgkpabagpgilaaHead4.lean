/-
  Contracts of small functions, several texts laid into one. Not a statement of the seat.
-/
import Derived.Test.YtmgkpabagpgilaaHiS
import Derived.Test.YtmgkpabagpgilaaHead3
namespace Go.Proofs.Ytmgkpabagpgilaa.Hi
open Go.ChangeShapes Go.WideShapes Go.ChangeAt Go.RowKit Base F Tx
theorem Txs.form {w : World} {v : Value} {xs : List Txn} (h : Txs w v xs) : ∃ p c, v = .slice p xs.length c ∧ xs.length ≤ c ∧ xs.length ≤ 9223372036854775807 := by
  obtain ⟨⟨p, c, h1, h2, _, h3⟩, _⟩ := h
  exact ⟨p, c, h1, h2, h3⟩
theorem Ords.form {w : World} {v : Value} {xs : List Ordr} (h : Ords w v xs) : ∃ p c, v = .slice p xs.length c ∧ xs.length ≤ c ∧ xs.length ≤ 9223372036854775807 := by
  obtain ⟨⟨p, c, h1, h2, _, h3⟩, _⟩ := h
  exact ⟨p, c, h1, h2, h3⟩
/-- One of them. -/
theorem Txs.at_ {w : World} {p : Option Addr} {c : Nat} {xs : List Txn} (h : Txs w (.slice p xs.length c) xs) {k : Nat} (hk : k < xs.length) : ∃ (g o : Nat) (sp : Option Addr) (sc : Nat), p = some ⟨g, o, none⟩ ∧ g < w.heap.size ∧ w.cell? ⟨g, o + k * 3, none⟩ = some (.int .i64 (xs.getD k Txn.zero).id) ∧ w.cell? ⟨g, o + k * 3 + 1, none⟩ = some (.bool (xs.getD k Txn.zero).dn) ∧ w.cell? ⟨g, o + k * 3 + 2, none⟩ = some (.slice sp (xs.getD k Txn.zero).ops.length sc) ∧ OpsV w (.slice sp (xs.getD k Txn.zero).ops.length sc) (xs.getD k Txn.zero).ops := by
  obtain ⟨g, o, c', hv, hg, h0, h1, s, h2, h3⟩ := h.2 k hk
  obtain ⟨sp, sc, hs, _⟩ := id h3.1
  subst hs
  injection hv with e
  exact ⟨g, o, sp, sc, e, hg, h0, h1, h2, h3⟩
theorem Ords.at_ {w : World} {p : Option Addr} {c : Nat} {xs : List Ordr} (h : Ords w (.slice p xs.length c) xs) {k : Nat} (hk : k < xs.length) : ∃ (g o : Nat) (sp : Option Addr) (sc : Nat), p = some ⟨g, o, none⟩ ∧ g < w.heap.size ∧ w.cell? ⟨g, o + k * 2, none⟩ = some (.int .i64 (xs.getD k Ordr.zero).key) ∧ w.cell? ⟨g, o + k * 2 + 1, none⟩ = some (.slice sp (xs.getD k Ordr.zero).txs.length sc) ∧ IdsV w (.slice sp (xs.getD k Ordr.zero).txs.length sc) (xs.getD k Ordr.zero).txs := by
  obtain ⟨g, o, c', hv, hg, h0, s, h2, h3⟩ := h.2 k hk
  obtain ⟨sp, sc, hs, _⟩ := id h3.1
  subst hs
  injection hv with e
  exact ⟨g, o, sp, sc, e, hg, h0, h2, h3⟩
/-- The first of an id. -/
def findT : List Txn → Int → Option Txn
  | [], _ => none
  | t :: l, id => if t.id = id then some t else findT l id
theorem findT_some : ∀ {l : List Txn} {id : Int} {k : Nat}, k < l.length → (l.getD k Txn.zero).id = id → (∀ j, j < k → (l.getD j Txn.zero).id ≠ id) → findT l id = some (l.getD k Txn.zero)
  | t :: l, id, 0, _, he, _ => by simp at he; simp [findT, he]
  | t :: l, id, k + 1, hk, he, hn => by
    have h0 := hn 0 (by omega)
    simp at h0
    rw [findT, if_neg h0]
    exact findT_some (by simpa using hk) (by simpa using he) (fun j hj => by simpa using hn (j + 1) (by omega))
theorem findT_none : ∀ {l : List Txn} {id : Int}, (∀ j, j < l.length → (l.getD j Txn.zero).id ≠ id) → findT l id = none
  | [], _, _ => rfl
  | t :: l, id, hn => by
    have h0 := hn 0 (by simp)
    simp at h0
    rw [findT, if_neg h0]
    exact findT_none (fun j hj => by simpa using hn (j + 1) (by simpa using hj))
/-- What Find tells. -/
def FindP (o : Option Txn) (w : World) (e : Ending) (w' : World) : Prop :=
  Aft w w' ∧ match o with
  | some t => ∃ sp sc, e = .returned (.tuple #[.agg #[.int .i64 t.id, .bool t.dn, .slice sp t.ops.length sc], .bool true]) ∧ OpsV w' (.slice sp t.ops.length sc) t.ops
  | none => e = .returned (.tuple #[.agg #[.int .i64 0, .bool false, .slice none 0 0], .bool false])
theorem stored_aft {w W w' : World} {g : Nat} {o : Obj} (h : Aft w W) (hg : w.heap.size ≤ g) (hs : Stored W g o w') : Aft w w' := hs.below h hg
/-- What all weigh. -/
def weightH : List Txn → Nat
  | [] => 0
  | t :: l => t.ops.length + 1 + weightH l
theorem weightH_take : ∀ (l : List Txn) (k : Nat), k < l.length → weightH (l.take (k + 1)) = weightH (l.take k) + ((l.getD k Txn.zero).ops.length + 1)
  | t :: l, 0, _ => by simp [weightH]
  | t :: l, k + 1, h => by
    have := weightH_take l k (by simpa using h)
    simp only [List.take_succ_cons, weightH] at this ⊢
    simp only [List.getD_cons_succ]
    omega
/-- Whether a history is not too much. -/
def lightH (h : Hist) : Prop := h.txs.length ≤ 12 ∧ h.ords.length ≤ 24 ∧ (∀ t ∈ h.txs, t.ops.length ≤ 24) ∧ ∀ o ∈ h.ords, o.txs.length ≤ 24
theorem lightH_weight : ∀ (l : List Txn), (∀ t ∈ l, t.ops.length ≤ 24) → weightH l ≤ 25 * l.length
  | [], _ => by simp [weightH]
  | t :: l, h => by
    have h1 := h t (List.mem_cons_self ..)
    have h2 := lightH_weight l fun x hx => h x (List.mem_cons_of_mem _ hx)
    simp only [weightH, List.length_cons]
    omega
end Go.Proofs.Ytmgkpabagpgilaa.Hi
namespace Go.Proofs.Ytmgkpabagpgilaa.Hi
open Go.ChangeShapes Go.WideShapes Go.ChangeAt Go.RowKit Base F Tx
/-- Whether a history is not too much. -/
def lightB (h : Hist) : Bool := decide (h.txs.length ≤ 12) && decide (h.ords.length ≤ 24) && h.txs.all (fun t => decide (t.ops.length ≤ 24)) && h.ords.all (fun o => decide (o.txs.length ≤ 24))
theorem lightB_iff (h : Hist) : lightB h = true ↔ lightH h := by
  unfold lightB lightH
  simp only [Bool.and_eq_true, decide_eq_true_eq, List.all_eq_true]
  constructor
  · rintro ⟨⟨⟨h1, h2⟩, h3⟩, h4⟩; exact ⟨h1, h2, h3, h4⟩
  · rintro ⟨h1, h2, h3, h4⟩; exact ⟨⟨⟨h1, h2⟩, h3⟩, h4⟩
theorem lightB_no {h : Hist} (hn : ¬ lightH h) : lightB h = false := by
  cases e : lightB h
  · rfl
  · exact absurd ((lightB_iff h).1 e) hn
theorem mem_of_getD {xs : List Txn} {P : Txn → Prop} (h : ∀ j, j < xs.length → P (xs.getD j Txn.zero)) : ∀ t ∈ xs, P t := fun t ht => by
  obtain ⟨j, hj, e⟩ := List.mem_iff_getElem.1 ht
  have := h j hj
  rwa [List.getD_eq_getElem?_getD, List.getElem?_eq_getElem hj, Option.getD_some, e] at this
theorem mem_of_getDo {xs : List Ordr} {P : Ordr → Prop} (h : ∀ j, j < xs.length → P (xs.getD j Ordr.zero)) : ∀ t ∈ xs, P t := fun t ht => by
  obtain ⟨j, hj, e⟩ := List.mem_iff_getElem.1 ht
  have := h j hj
  rwa [List.getD_eq_getElem?_getD, List.getElem?_eq_getElem hj, Option.getD_some, e] at this
theorem getD_mem {xs : List Txn} {j : Nat} (hj : j < xs.length) : xs.getD j Txn.zero ∈ xs := by
  rw [List.getD_eq_getElem?_getD, List.getElem?_eq_getElem hj]; exact List.getElem_mem hj
theorem getD_memo {xs : List Ordr} {j : Nat} (hj : j < xs.length) : xs.getD j Ordr.zero ∈ xs := by
  rw [List.getD_eq_getElem?_getD, List.getElem?_eq_getElem hj]; exact List.getElem_mem hj
set_option maxRecDepth 100000 in
set_option maxHeartbeats 8000000 in
theorem rlight_any {v u : Value} {h : Hist} (w : World) (hh : HistV w v u h) : Calls Try.prog 5 #[.agg #[v, u]] w (BoolNew (lightB h) w) := by
  have HLN : Hid (¬ lightH h → lightB h = false) := Lib.hid lightB_no
  have HLY : Hid (lightH h → lightB h = true) := Lib.hid (lightB_iff h).2
  generalize lightB h = lb at HLN HLY ⊢
  obtain ⟨xs, os⟩ := h
  obtain ⟨h1, h2⟩ := hh
  simp only at h1 h2 ⊢
  obtain ⟨p, c, rfl, _, hlm⟩ := h1.form
  obtain ⟨q, d, rfl, _, hlo⟩ := h2.form
  have HT : Hid (Txs w (.slice p xs.length c) xs) := Lib.hid h1
  have HO : Hid (Ords w (.slice q os.length d) os) := Lib.hid h2
  have HS0 : Hid (Aft w (w.alloc (.cells #[.slice p xs.length c, .slice q os.length d] 25)) ∧ (w.alloc (.cells #[.slice p xs.length c, .slice q os.length d] 25)).heap[w.heap.size]? = some (.cells #[.slice p xs.length c, .slice q os.length d] 25) ∧ ∀ j, j < 0 → (xs.getD j Txn.zero).ops.length ≤ 24) := Lib.hid ⟨(Aft.refl w).lay _, heap_alloc_at _ _ _ rfl, fun j hj => by omega⟩
  clear h1 h2
  by_cases ha : 12 < xs.length
  · have ha' : (12 : Int) < (xs.length : Int) := by omega
    have HF := Lib.hid (HLN.out fun h => by have := h.1; simp only at this; omega)
    clear HT HO HLN HLY HS0
    go_enter Try.func5, Try.ntmps5
    go_wp2_with fail
    go_ret
    exact ⟨congrArg (fun b => Ending.returned (.bool b)) HF.out.symm, (Aft.refl w).lay _⟩
  have ha' : ¬ (12 : Int) < (xs.length : Int) := by omega
  by_cases hb : 24 < os.length
  · have hb' : (24 : Int) < (os.length : Int) := by omega
    have HF := Lib.hid (HLN.out fun h => by have := h.2.1; simp only at this; omega)
    clear HT HO HLN HLY HS0 ha
    go_enter Try.func5, Try.ntmps5
    go_wp2_with fail
    go_ret
    exact ⟨congrArg (fun b => Ending.returned (.bool b)) HF.out.symm, (Aft.refl w).lay _⟩
  have hb' : ¬ (24 : Int) < (os.length : Int) := by omega
  have HAB : Hid (xs.length ≤ 12 ∧ os.length ≤ 24) := Lib.hid ⟨by omega, by omega⟩
  clear ha hb
  go_enter Try.func5, Try.ntmps5
  go_wp2_with fail
  clear ha' hb'
  go_loopw [20] (fun s20 wr => ∃ k : Nat, s20 = .int .i64 (k : Int) ∧ k ≤ xs.length ∧ Hid (Aft w wr ∧ wr.heap[w.heap.size]? = some (.cells #[.slice p xs.length c, .slice q os.length d] 25) ∧ ∀ j, j < k → (xs.getD j Txn.zero).ops.length ≤ 24)) (fun s20 _ => xs.length - (intOf s20).toNat)
  case atStart => exact ⟨0, rfl, Nat.zero_le _, HS0⟩
  case round =>
    clear HS0
    obtain ⟨k, rfl, hk, HS⟩ := hrel
    by_cases hlt : k < xs.length
    · obtain ⟨g, o, sp, sc, rfl, hg, c0, c1, c2, hs⟩ := HT.out.at_ hlt
      have c0 := HS.out.1.cell hg c0
      have c1 := HS.out.1.cell hg c1
      have c2 := HS.out.1.cell hg c2
      have hg := Nat.lt_of_lt_of_le hg HS.out.1.size
      have hkI : (k : Int) < (xs.length : Int) := by omega
      have HM := Lib.hid (getD_mem hlt)
      have HN := Lib.hid (fun he : (xs.getD k Txn.zero).ops.length ≤ 24 => show ∀ j, j < k + 1 → (xs.getD j Txn.zero).ops.length ≤ 24 from fun j hj => if h : j = k then h ▸ he else HS.out.2.2 j (by omega))
      have HSA := Lib.hid (And.intro HS.out.1 HS.out.2.1)
      generalize xs.getD k Txn.zero = t at c0 c1 c2 HM HN
      obtain ⟨ti, td, tl⟩ := t
      simp only at c0 c1 c2 HN
      clear hs HS
      have HB : Hid (Aft w (wr.alloc (boxT ti td (.slice sp tl.length sc))) ∧ (wr.alloc (boxT ti td (.slice sp tl.length sc))).heap[w.heap.size]? = some (.cells #[.slice (some ⟨g, o, none⟩) xs.length c, .slice q os.length d] 25)) := Lib.hid ⟨HSA.out.1.lay _, heap_alloc_lt _ _ _ _ HSA.out.2⟩
      obtain ⟨tn, htn⟩ : ∃ n, n = tl.length := ⟨_, rfl⟩
      rw [← htn] at c2 HB HN
      have HTN := Lib.hid htn
      clear htn
      by_cases he : 24 < tn
      · have he' : (24 : Int) < (tn : Int) := by omega
        have HF := Lib.hid (HLN.out fun h => by have := h.2.2.1 _ HM.out; have := HTN.out; simp only at *; omega)
        clear HN HSA HT HO HLN HLY
        unfold boxT at HB
        go_wp2_with fail
        go_ret
        exact ⟨congrArg (fun b => Ending.returned (.bool b)) HF.out.symm, HB.out.1⟩
      · have he' : ¬ (24 : Int) < (tn : Int) := by omega
        have HR := Lib.hid (And.intro HB.out.1 (And.intro HB.out.2 (HN.out (by omega))))
        clear he HN HSA HB
        unfold boxT at HR
        go_wp2_with fail
        go_roundw
        case rel => exact ⟨k + 1, by go_num, hlt, HR⟩
        case measure => simp [intOf]; omega
    · have hke : k = xs.length := by omega
      subst hke
      have HTX := Lib.hid (mem_of_getD (P := fun t => t.ops.length ≤ 24) HS.out.2.2)
      have HA := Lib.hid HS.out.1
      obtain ⟨hgh, e0, e1⟩ : w.heap.size < wr.heap.size ∧ wr.cell? ⟨w.heap.size, 0, none⟩ = some (.slice p xs.length c) ∧ wr.cell? ⟨w.heap.size, 1, none⟩ = some (.slice q os.length d) := ⟨heap_lt HS.out.2.1, by simp [World.cell?, HS.out.2.1], by simp [World.cell?, HS.out.2.1]⟩
      have HT0 : Hid (Aft w wr ∧ ∀ j, j < 0 → (os.getD j Ordr.zero).txs.length ≤ 24) := Lib.hid ⟨HS.out.1, fun j hj => by omega⟩
      clear HS HT hlt hk
      go_wp2_with fail
      go_loopw [32] (fun s32 wz => ∃ k : Nat, s32 = .int .i64 (k : Int) ∧ k ≤ os.length ∧ Hid (Aft w wz ∧ ∀ j, j < k → (os.getD j Ordr.zero).txs.length ≤ 24)) (fun s32 _ => os.length - (intOf s32).toNat)
      case atStart => exact ⟨0, rfl, Nat.zero_le _, HT0⟩
      case round =>
        clear HT0 HA hgh e0 e1
        obtain ⟨k, rfl, hk, HS⟩ := hrel
        by_cases hlt : k < os.length
        · obtain ⟨g, o, sp, sc, rfl, hg, c0, c1, hs⟩ := HO.out.at_ hlt
          have c0 := HS.out.1.cell hg c0
          have c1 := HS.out.1.cell hg c1
          have hg := Nat.lt_of_lt_of_le hg HS.out.1.size
          have hkI : (k : Int) < (os.length : Int) := by omega
          have HM := Lib.hid (getD_memo hlt)
          have HN := Lib.hid (fun he : (os.getD k Ordr.zero).txs.length ≤ 24 => show ∀ j, j < k + 1 → (os.getD j Ordr.zero).txs.length ≤ 24 from fun j hj => if h : j = k then h ▸ he else HS.out.2 j (by omega))
          have HSA := Lib.hid HS.out.1
          generalize os.getD k Ordr.zero = t at c0 c1 HM HN
          obtain ⟨ti, tl⟩ := t
          simp only at c0 c1 HN
          clear hs HS
          have HB : Hid (Aft w (wr.alloc (.cells #[.int .i64 ti, .slice sp tl.length sc] 43))) := Lib.hid (HSA.out.lay _)
          obtain ⟨tn, htn⟩ : ∃ n, n = tl.length := ⟨_, rfl⟩
          rw [← htn] at c1 HB HN
          have HTN := Lib.hid htn
          clear htn
          by_cases he : 24 < tn
          · have he' : (24 : Int) < (tn : Int) := by omega
            have HF := Lib.hid (HLN.out fun h => by have := h.2.2.2 _ HM.out; have := HTN.out; simp only at *; omega)
            clear HN HSA HO HLN HLY
            go_wp2_with fail
            go_ret
            exact ⟨congrArg (fun b => Ending.returned (.bool b)) HF.out.symm, HB.out⟩
          · have he' : ¬ (24 : Int) < (tn : Int) := by omega
            have HR := Lib.hid (And.intro HB.out (HN.out (by omega)))
            clear he HN HSA HB
            go_wp2_with fail
            go_roundw
            case rel => exact ⟨k + 1, by go_num, hlt, HR⟩
            case measure => simp [intOf]; omega
        · have hke : k = os.length := by omega
          subst hke
          have HF := Lib.hid (HLY.out ⟨HAB.out.1, HAB.out.2, HTX.out, mem_of_getDo (P := fun o => o.txs.length ≤ 24) HS.out.2⟩)
          have HA := Lib.hid HS.out.1
          clear HS HO HLN HLY hlt hk
          go_wp2_with fail
          go_ret
          exact ⟨congrArg (fun b => Ending.returned (.bool b)) HF.out.symm, HA.out⟩
end Go.Proofs.Ytmgkpabagpgilaa.Hi
