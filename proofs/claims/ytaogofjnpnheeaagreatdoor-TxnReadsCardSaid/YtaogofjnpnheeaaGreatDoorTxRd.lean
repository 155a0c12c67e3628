/-
  The law of TxnReads. Not a statement of the seat.
-/
import Derived.Test.YtaogofjnpnheeaaGreatDoorTxA
import Derived.Test.YtaogofjnpnheeaaGreatDoorTxRdM
import Derived.Test.YtaogofjnpnheeaaGreatDoorOpRd
import Derived.Test.YtaogofjnpnheeaaGreatDoorOpRead
namespace Go.Proofs.YtaogofjnpnheeaaGreatDoor.Tx
open Go.ChangeShapes Go.WideShapes Go.ChangeAt Go.RowKit Base F Lst Nu Go.Lib
open Go.Proofs.YtaogofjnpnheeaaGreatDoor.Op (rightO textO readO)
theorem rtGo_ok (id : Int) : ∀ (l pre : List Opr), rtGo id pre l = 0 → ∀ o ∈ l, rightO o = true
  | [], _, _, o, ho => by cases ho
  | x :: l, pre, h, o, ho => by
    unfold rtGo at h
    split at h
    · cases h
    · rename_i h1
      split at h
      · cases h
      · rcases List.mem_cons.1 ho with rfl | ho
        · simpa using h1
        · exact rtGo_ok id l _ h o ho
theorem right_ops {id : Int} {l : List Opr} (h : rightT id l = 0) : (1 ≤ id ∧ id ≤ 1048575) ∧ ∀ o ∈ l, rightO o = true := by
  unfold rightT at h
  split at h
  · cases h
  · rename_i h1
    split at h
    · cases h
    · exact ⟨by omega, rtGo_ok id l [] h⟩
theorem text_eq {id id2 : Int} {d d2 : Bool} {l l2 : List Opr} (h1 : rightT id l = 0) (h2 : rightT id2 l2 = 0) : (textT id d l = textT id2 d2 l2) ↔ sameT id id2 d d2 l l2 = true := by
  obtain ⟨b1, o1⟩ := right_ops h1
  obtain ⟨b2, o2⟩ := right_ops h2
  rw [text_same (id := id) (id2 := id2) (fun e => by
    have e1 := Op.read_small (n := id) (by omega) (by omega)
    have e2 := Op.read_small (n := id2) (by omega) (by omega)
    rw [e, e2] at e1
    exact (Prod.mk.inj e1).1.symm) (fun x y hx hy e => by
    have e1 := Op.read_text hx
    have e2 := Op.read_text hy
    rw [e, e2] at e1
    exact (Prod.mk.inj e1).1.symm) o1 o2]
  unfold sameT
  rw [Bool.and_eq_true, Bool.and_eq_true, Op.sameO_iff]
  simp [and_assoc]
/-- Where the law's walk over the text stands. -/
def Stand (ws : List (List UInt8)) (i j : Nat) (part : List UInt8) : Prop := (∃ rest, Wd.At ws i j part rest) ∨ (i = (Wd.ended ws).length ∧ j = ws.length ∧ part = [])
theorem Stand.next {ws : List (List UInt8)} {i j : Nat} {part : List UInt8} (h : Wd.At ws i j part []) : Stand ws (i + 1) (j + 1) [] := by
  by_cases hj : j + 1 < ws.length
  · exact .inl ⟨_, h.done hj⟩
  · have e : j + 1 = ws.length := by have := h.1; omega
    exact .inr ⟨h.last e, e, rfl⟩
theorem get_bts {s : ByteArray} {u : List UInt8} (e : s.data.toList = u) {v : List UInt8} {k : Nat} {x : UInt8} (hx : (u ++ v)[k]? = some x) (hk : k < s.size) : s[k] = x := by
  have h1 : k < u.length := by rw [← e]; simpa using hk
  rw [List.getElem?_append_left h1] at hx
  have h2 : s.data.toList[k]? = some x := by rw [e]; exact hx
  have h3 : s.data[k]? = some x := by simpa using h2
  have h4 : k < s.data.size := hk
  rw [Array.getElem?_eq_getElem h4] at h3
  exact Option.some.inj h3
theorem ext_one (s : ByteArray) (k : Nat) (hk : k < s.size) : (s.extract k (k + 1)).data.toList = [s[k]] := by
  have h4 : k < s.data.size := hk
  simp only [ByteArray.data_extract, Array.toList_extract]
  have h5 : k < s.data.toList.length := by simpa using h4
  rw [List.extract_eq_take_drop]
  rw [List.drop_eq_getElem_cons h5, show k + 1 - k = 1 by omega]
  simp
  rfl
theorem wordsT_at (id : Int) (d : Bool) (l : List Opr) (m : Nat) (hm : m < l.length) : (wordsT id d l).getD (m + 2) [] = textO (l.getD m Opr.zero) := by
  unfold wordsT
  rw [List.getD_cons_succ, List.getD_cons_succ, List.getD_eq_getElem?_getD, List.getElem?_map, List.getD_eq_getElem?_getD, List.getElem?_eq_getElem hm]
  rfl
theorem oprs_at {b n c : Nat} {W : World} {p : Option Addr} {l : List Opr} (h : Oprs b W (.slice p n c) l) : ∀ k, k < l.length → ∃ g o, p = some ⟨g, o, none⟩ ∧ g < W.heap.size ∧ (W.cell? ⟨g, o + k * 4, none⟩ = some (.bool (l.getD k Opr.zero).rd) ∧ W.cell? ⟨g, o + k * 4 + 1, none⟩ = some (.int .i64 (l.getD k Opr.zero).k) ∧ W.cell? ⟨g, o + k * 4 + 2, none⟩ = some (.int .i64 (l.getD k Opr.zero).t) ∧ W.cell? ⟨g, o + k * 4 + 3, none⟩ = some (.int .i64 (l.getD k Opr.zero).n)) := by
  intro k hk
  obtain ⟨p', c', hv, _, hc⟩ := h.open_
  obtain ⟨g, o, hp, _, hg, h4⟩ := hc k hk
  injection hv with e1
  exact ⟨g, o, by rw [e1, hp], hg, h4⟩
theorem wordsT_len (id : Int) (d : Bool) (l : List Opr) : (wordsT id d l).length = l.length + 2 := by unfold wordsT; simp
set_option maxRecDepth 100000 in
set_option maxHeartbeats 16000000 in
theorem txreads_any {p p2 : Option Addr} {c c2 : Nat} {l l2 : List Opr} (id id2 : Int) (d d2 : Bool) (w : World) (hp : Pow w) (hi : -9223372036854775808 ≤ id ∧ id ≤ 9223372036854775807) (hi2 : -9223372036854775808 ≤ id2 ∧ id2 ≤ 9223372036854775807) (h : Oprs 0 w (.slice p l.length c) l) (hok : ∀ x ∈ l, Opr.ok x) (h2 : Oprs 0 w (.slice p2 l2.length c2) l2) (hok2 : ∀ x ∈ l2, Opr.ok x) : Calls Tryz.prog 3 #[.agg #[.int .i64 id, .bool d, .slice p l.length c], .agg #[.int .i64 id2, .bool d2, .slice p2 l2.length c2]] w (LivesP w) := by
  have HE : Hid (∀ W, Aft w W → LivesP w (.returned (.bool true)) W) := Lib.hid fun W hW => ⟨rfl, hW⟩
  have HPW := Lib.hid hp
  have HO := Lib.hid h
  have HO2 := Lib.hid h2
  have HLV : Hid (∀ o o2, Calls Tryz.prog 4 #[] ((w.alloc o).alloc o2) (LivesP ((w.alloc o).alloc o2))) := Lib.hid fun o o2 => lives _ (hp.below ((Aft.one o).lay o2))
  obtain ⟨X0, hX0⟩ : ∃ X0, X0 = (w.alloc (.cells #[.int .i64 id, .bool d, .slice p l.length c] 24)).alloc (.cells #[.int .i64 id2, .bool d2, .slice p2 l2.length c2] 24) := ⟨_, rfl⟩
  have HA0 : Hid (Aft w X0) := Lib.hid (by rw [hX0]; exact (Aft.one _).lay _)
  have HX : Hid (∀ X, Aft X0 X → ((X.cell? ⟨w.heap.size, 0, none⟩ = some (.int .i64 id) ∧ X.cell? ⟨w.heap.size, 1, none⟩ = some (.bool d) ∧ X.cell? ⟨w.heap.size, 2, none⟩ = some (.slice p l.length c)) ∧ (X.cell? ⟨w.heap.size + 1, 0, none⟩ = some (.int .i64 id2) ∧ X.cell? ⟨w.heap.size + 1, 1, none⟩ = some (.bool d2) ∧ X.cell? ⟨w.heap.size + 1, 2, none⟩ = some (.slice p2 l2.length c2))) ∧ Oprs 0 X (.slice p l.length c) l ∧ Oprs 0 X (.slice p2 l2.length c2) l2) := Lib.hid (by
    have e0 : X0.heap[w.heap.size]? = some (boxT id d (.slice p l.length c)) := by rw [hX0]; exact heap_alloc_lt _ _ _ _ (heap_alloc_at _ _ _ rfl)
    have e1 : X0.heap[w.heap.size + 1]? = some (boxT id2 d2 (.slice p2 l2.length c2)) := by rw [hX0]; exact heap_alloc_at _ _ _ (by simp)
    clear hX0
    intro X hX
    exact ⟨⟨(cellsT ((hX.block _ (heap_lt e0)).trans e0)).2.1, (cellsT ((hX.block _ (heap_lt e1)).trans e1)).2.1⟩, HO.out.below (HA0.out.trans hX), HO2.out.below (HA0.out.trans hX)⟩)
  have HLV0 : Hid (Calls Tryz.prog 4 #[] X0 (LivesP X0)) := Lib.hid (by rw [hX0]; exact HLV.out _ _)
  clear h h2 HLV
  by_cases hl : 100 < l.length
  · have hl' : (100 : Int) < (l.length : Int) := by omega
    generalize LivesP w = Post at HE ⊢
    go_enter Tryz.func3, Tryz.ntmps3
    go_wp2_with fail
    rw [← hX0]
    clear hX0
    refine HLV0.out.mono ?_
    rintro e w1 ⟨rfl, h1⟩
    obtain ⟨⟨⟨a0, a1, a2⟩, b0, b1, b2⟩, _⟩ := HX.out _ h1
    have B1 := Lib.hid h1
    clear h1
    go_wp2_with fail
    exact HE.out _ (HA0.out.trans B1.out)
  have hl' : ¬ (100 : Int) < (l.length : Int) := by omega
  by_cases hl2 : 100 < l2.length
  · have hl2' : (100 : Int) < (l2.length : Int) := by omega
    generalize LivesP w = Post at HE ⊢
    go_enter Tryz.func3, Tryz.ntmps3
    go_wp2_with fail
    rw [← hX0]
    clear hX0
    refine HLV0.out.mono ?_
    rintro e w1 ⟨rfl, h1⟩
    obtain ⟨⟨⟨a0, a1, a2⟩, b0, b1, b2⟩, _⟩ := HX.out _ h1
    have B1 := Lib.hid h1
    clear h1
    go_wp2_with fail
    exact HE.out _ (HA0.out.trans B1.out)
  have hl2' : ¬ (100 : Int) < (l2.length : Int) := by omega
  have HL : Hid (l.length ≤ 100000) := Lib.hid (by omega)
  have HL2 : Hid (l2.length ≤ 100000) := Lib.hid (by omega)
  have HR1 : Hid (∀ W, Aft X0 W → Calls Tryz.prog 5 #[.agg #[.int .i64 id, .bool d, .slice p l.length c]] W fun e w' => e = .returned (.int .i64 (rightT id l)) ∧ Aft W w') := Lib.hid fun W hW => k_right id d _ (HX.out _ hW).2.1 HL.out rfl
  have HR2 : Hid (∀ W, Aft X0 W → Calls Tryz.prog 5 #[.agg #[.int .i64 id2, .bool d2, .slice p2 l2.length c2]] W fun e w' => e = .returned (.int .i64 (rightT id2 l2)) ∧ Aft W w') := Lib.hid fun W hW => k_right id2 d2 _ (HX.out _ hW).2.2 HL2.out rfl
  by_cases hr : rightT id l = 0
  case neg =>
    generalize rightT id l = z at HR1 hr
    have hz : (z != 0) = true := by rw [bne_iff_ne]; exact hr
    generalize LivesP w = Post at HE ⊢
    clear hr hl hl2 hi hi2 hok hok2 hp HR2
    go_enter Tryz.func3, Tryz.ntmps3
    go_wp2_with fail
    rw [← hX0]
    clear hX0
    refine HLV0.out.mono ?_
    rintro e w1 ⟨rfl, h1⟩
    obtain ⟨⟨⟨a0, a1, a2⟩, b0, b1, b2⟩, _⟩ := HX.out _ h1
    have B1 := Lib.hid h1
    clear h1
    go_wp2_with fail
    refine (HR1.out _ B1.out).mono ?_
    rintro e w2 ⟨rfl, h1⟩
    have B2 := Lib.hid (B1.out.trans h1)
    clear h1 a0 a1 a2 b0 b1 b2
    go_wp2_with fail
    exact HE.out _ (HA0.out.trans B2.out)
  by_cases hr2 : rightT id2 l2 = 0
  case neg =>
    rw [hr] at HR1
    generalize rightT id2 l2 = z at HR2 hr2
    have hz : (z != 0) = true := by rw [bne_iff_ne]; exact hr2
    generalize LivesP w = Post at HE ⊢
    clear hr hr2 hl hl2 hi hi2 hok hok2 hp
    go_enter Tryz.func3, Tryz.ntmps3
    go_wp2_with fail
    rw [← hX0]
    clear hX0
    refine HLV0.out.mono ?_
    rintro e w1 ⟨rfl, h1⟩
    obtain ⟨⟨⟨a0, a1, a2⟩, b0, b1, b2⟩, _⟩ := HX.out _ h1
    have B1 := Lib.hid h1
    clear h1
    go_wp2_with fail
    refine (HR1.out _ B1.out).mono ?_
    rintro e w2 ⟨rfl, h1⟩
    have B2 := Lib.hid (B1.out.trans h1)
    clear h1 a0 a1 a2 b0 b1 b2
    obtain ⟨⟨⟨a0, a1, a2⟩, b0, b1, b2⟩, _⟩ := HX.out _ B2.out
    go_wp2_with fail
    refine (HR2.out _ B2.out).mono ?_
    rintro e w3 ⟨rfl, h1⟩
    have B3 := Lib.hid (B2.out.trans h1)
    clear h1 a0 a1 a2 b0 b1 b2
    go_wp2_with fail
    exact HE.out _ (HA0.out.trans B3.out)
  obtain ⟨r, hrs⟩ : ∃ r, sameT id id2 d d2 l l2 = r := ⟨_, rfl⟩
  have HSM := Lib.hid hrs
  obtain ⟨sb, hsb⟩ : ∃ s : ByteArray, textT id d l = s.data.toList := ⟨⟨(textT id d l).toArray⟩, by simp⟩
  obtain ⟨tb, htb⟩ : ∃ s : ByteArray, textT id2 d2 l2 = s.data.toList := ⟨⟨(textT id2 d2 l2).toArray⟩, by simp⟩
  have HT1 : Hid (∀ W, Aft X0 W → Calls Tryz.prog 6 #[.agg #[.int .i64 id, .bool d, .slice p l.length c]] W fun e w' => e = .returned (.string sb) ∧ Aft W w') := Lib.hid fun W hW => k_text id d (HPW.out.below (HA0.out.trans hW)) (HX.out _ hW).2.1 hi hok HL.out sb.data hsb
  have HT2 : Hid (∀ W, Aft X0 W → Calls Tryz.prog 6 #[.agg #[.int .i64 id2, .bool d2, .slice p2 l2.length c2]] W fun e w' => e = .returned (.string tb) ∧ Aft W w') := Lib.hid fun W hW => k_text id2 d2 (HPW.out.below (HA0.out.trans hW)) (HX.out _ hW).2.2 hi2 hok2 HL2.out tb.data htb
  have HQ : Hid ((r == (sb.toList == tb.toList)) = true) := Lib.hid (by
    have := text_eq (d := d) (d2 := d2) hr hr2
    rw [hsb, htb, hrs] at this
    rw [ByteArray.toList_eq, ByteArray.toList_eq]
    cases r with
    | true => rw [this.2 rfl]; simp
    | false =>
      have h1 : ¬ sb.data.toList = tb.data.toList := fun e => by cases this.1 e
      rw [beq_eq_false_iff_ne.2 h1]; rfl)
  have HSZ : Hid (sb.size ≤ 10000000) := Lib.hid (by
    have := text_len id d l hi hok HL.out
    rw [hsb] at this
    simpa using this)
  obtain ⟨ws, hws⟩ : ∃ ws, wordsT id d l = ws := ⟨_, rfl⟩
  have HEN : Hid (sb.data.toList ++ [32] = Wd.ended ws) := Lib.hid (by rw [← hsb, ← hws]; exact text_ended id d l)
  have HPL : Hid (∀ x ∈ ws, Wd.Plain x) := Lib.hid (by rw [← hws]; exact words_plain id d l)
  have HWL : Hid (ws.length = l.length + 2) := Lib.hid (by rw [← hws]; exact wordsT_len id d l)
  have HOPS := Lib.hid (right_ops hr).2
  have HWA : Hid (∀ m, m < l.length → ws.getD (m + 2) [] = textO (l.getD m Opr.zero)) := Lib.hid fun m hm => by rw [← hws]; exact wordsT_at id d l m hm
  have HOK := Lib.hid hok
  have HBY : Hid (∀ i j part rest, Wd.At ws i j part rest → ∀ h : i < sb.size, sb[i] = rest.headD 32) := Lib.hid fun i j part rest h hi => by
    have := h.byte
    rw [← HEN.out] at this
    exact get_bts (v := [32]) rfl this hi
  have HLT : Hid (∀ i j part rest, Wd.At ws i j part rest → i ≤ sb.size) := Lib.hid fun i j part rest h => by
    have := h.lt
    rw [← HEN.out] at this
    simp at this
    omega
  have HLE : Hid ((Wd.ended ws).length = sb.size + 1) := Lib.hid (by rw [← HEN.out]; simp)
  have HST : Hid (Stand ws 0 0 []) := Lib.hid (by rw [← hws]; exact .inl ⟨_, Wd.At.start⟩)
  have HRD : Hid (∀ (x : Opr) (b : ByteArray) W, rightO x = true → Opr.ok x → b.data.toList = textO x → Calls Tryz.prog 7 #[.string b] W fun e w' => e = .returned (.tuple #[.agg #[.bool x.rd, .int .i64 x.k, .int .i64 x.t, .int .i64 x.n], .int .i64 0]) ∧ Aft W w') := Lib.hid fun x b W h1 h2 h3 => by
    have h4 : b.size ≤ 9223372036854775807 := by
      have h5 : b.size = (textO x).length := by rw [← h3]; simp
      have := textO_len x h2
      omega
    have := Op.read2_any b h4 W
    unfold Op.RdPost at this
    rw [h3, Op.read_text h1] at this
    exact this
  rw [hr] at HR1
  rw [hr2] at HR2
  generalize LivesP w = Post at HE ⊢
  clear hr hr2 hl hl2 hi hi2 hok hok2 hp hrs hsb htb hws
  go_enter Tryz.func3, Tryz.ntmps3
  go_wp2_with fail
  rw [← hX0]
  clear hX0
  refine HLV0.out.mono ?_
  rintro e w1 ⟨rfl, h1⟩
  obtain ⟨⟨⟨a0, a1, a2⟩, b0, b1, b2⟩, _⟩ := HX.out _ h1
  have B1 := Lib.hid h1
  clear h1
  go_wp2_with fail
  refine (HR1.out _ B1.out).mono ?_
  rintro e w2 ⟨rfl, h1⟩
  have B2 := Lib.hid (B1.out.trans h1)
  clear h1 a0 a1 a2 b0 b1 b2
  obtain ⟨⟨⟨a0, a1, a2⟩, b0, b1, b2⟩, _⟩ := HX.out _ B2.out
  go_wp2_with fail
  refine (HR2.out _ B2.out).mono ?_
  rintro e w3 ⟨rfl, h1⟩
  have B3 := Lib.hid (B2.out.trans h1)
  clear h1 a0 a1 a2 b0 b1 b2
  obtain ⟨⟨⟨a0, a1, a2⟩, b0, b1, b2⟩, _⟩ := HX.out _ B3.out
  go_wp2_with fail
  refine (HT1.out _ B3.out).mono ?_
  rintro e w4 ⟨rfl, h1⟩
  have B4 := Lib.hid (B3.out.trans h1)
  clear h1 a0 a1 a2 b0 b1 b2 B1 B2 B3 HR1 HR2 HT1 HLV0
  go_wp2_with fail
  go_loopw [6, 7, 8] (fun s6 s7 s8 wr => ∃ (i j : Nat) (b : ByteArray), s8 = .int .i64 i ∧ s7 = .int .i64 j ∧ s6 = .string b ∧ i ≤ 10000001 ∧ Hid (Stand ws i j b.data.toList) ∧ Hid (Aft X0 wr)) (fun _ _ s8 _ => 10000005 - (intOf s8).toNat)
  case atStart => exact ⟨0, 0, ⟨#[]⟩, rfl, rfl, rfl, by omega, HST, B4⟩
  case round =>
    obtain ⟨i, j, b, rfl, rfl, rfl, hi, HS, BW⟩ := hrel
    have hi1 : (i : Int) ≤ 10000001 := by omega
    rcases HS.out with ⟨rest, hat⟩ | ⟨e1, e2, _⟩
    · have hle := HLT.out i j _ rest hat
      have hby := HBY.out i j _ rest hat
      have hls : (i : Int) ≤ (sb.size : Int) := by omega
      have hbs : b.size ≤ 10000001 := by
        have h3 := hat.2.2
        simp at h3
        omega
      cases rest with
      | cons ch rest =>
        have hch : ch ≠ 32 := HPL.out (ws.getD j []) (by rw [List.getD_eq_getElem?_getD, List.getElem?_eq_getElem hat.1]; exact List.getElem_mem _) ch (by rw [hat.2.1]; simp)
        have hlt : i < sb.size := by have := HLT.out _ _ _ _ hat.more; omega
        have hb1 : sb[i] = ch := hby hlt
        have hne : ((sb[i].toNat : Int) != 32) = true := by
          rw [hb1, bne_iff_ne]
          intro h
          exact hch (UInt8.toNat_inj.1 (by have : (32 : UInt8).toNat = 32 := rfl; omega))
        have hltI : (i : Int) < (sb.size : Int) := by omega
        have HN : Hid (Stand ws (i + 1) j (b ++ sb.extract i (i + 1)).data.toList) := Lib.hid (.inl ⟨rest, by
          have h5 : (b ++ sb.extract i (i + 1)).data.toList = b.data.toList ++ [ch] := by
            rw [ByteArray.data_append, Array.toList_append, ext_one _ _ hlt, hb1]
          rw [h5]
          exact hat.more⟩)
        clear hat hby hch hb1 HS HPL HBY HLT
        go_wp2_with fail
        go_roundw
        case rel => exact ⟨i + 1, j, _, by go_num, rfl, rfl, by have := HSZ.out; omega, HN, BW⟩
        case measure => simp [intOf]; omega
      | nil =>
        have HN := Lib.hid (Stand.next hat)
        have hjl := hat.1
        have HPT : Hid (ws.getD j [] = b.data.toList) := Lib.hid (by rw [hat.2.1]; simp)
        have hjb : (j : Int) ≤ 10000001 := by have := HWL.out; have := HL.out; omega
        clear hat
        by_cases hj : 2 ≤ j
        · obtain ⟨m, hm⟩ : ∃ m, j = m + 2 := ⟨j - 2, by omega⟩
          have hml : m < l.length := by have := HWL.out; omega
          have hj2 : (2 : Int) ≤ (j : Int) := by omega
          have hsub : IntKind.i64.wrap ((j : Int) - 2) = (m : Int) := by rw [IntKind.wrap_i64]; omega
          have hmI : (m : Int) < (l.length : Int) := by omega
          have hmB : decide ((l.length : Int) ≤ (m : Int)) = false := by rw [decide_eq_false_iff_not]; omega
          have hmC : decide (l.length ≤ m) = false := by rw [decide_eq_false_iff_not]; omega
          obtain ⟨g, o, hpp, hg, _⟩ := oprs_at HO.out m hml
          have HCL : Hid (∀ W, Aft X0 W → (W.cell? ⟨g, o + m * 4, none⟩ = some (.bool (l.getD m Opr.zero).rd) ∧ W.cell? ⟨g, o + m * 4 + 1, none⟩ = some (.int .i64 (l.getD m Opr.zero).k) ∧ W.cell? ⟨g, o + m * 4 + 2, none⟩ = some (.int .i64 (l.getD m Opr.zero).t) ∧ W.cell? ⟨g, o + m * 4 + 3, none⟩ = some (.int .i64 (l.getD m Opr.zero).n))) := Lib.hid fun W hW => by
            obtain ⟨g2, o2, hp2, _, h4⟩ := oprs_at (HX.out _ hW).2.1 m hml
            rw [hpp] at hp2
            injection hp2 with hp2
            injection hp2 with e1 e2
            subst e1 e2
            exact h4
          have HRX : Hid (∀ W, Calls Tryz.prog 7 #[.string b] W fun e w' => e = .returned (.tuple #[.agg #[.bool (l.getD m Opr.zero).rd, .int .i64 (l.getD m Opr.zero).k, .int .i64 (l.getD m Opr.zero).t, .int .i64 (l.getD m Opr.zero).n], .int .i64 0]) ∧ Aft W w') := Lib.hid fun W => HRD.out _ b W (HOPS.out _ (by rw [List.getD_eq_getElem?_getD, List.getElem?_eq_getElem hml]; exact List.getElem_mem _)) (HOK.out _ (by rw [List.getD_eq_getElem?_getD, List.getElem?_eq_getElem hml]; exact List.getElem_mem _)) (by rw [← HPT.out, hm]; exact HWA.out m hml)
          generalize l.getD m Opr.zero = x at HCL HRX
          have hnx := Opr.beq_self x
          clear hm hml hj hg HOPS HOK HWA HRD HPT HO HWL HL HS HPL
          by_cases hlt : i < sb.size
          · have hb1 : sb[i] = 32 := hby hlt
            have hne : ((sb[i].toNat : Int) != 32) = false := by rw [hb1]; rfl
            have hltI : (i : Int) < (sb.size : Int) := by omega
            clear hby hb1 HBY HLT
            go_upto_region 14 with (go_at_call 7; refine (HRX.out _).mono ?_; rintro e w5 ⟨rfl, h5⟩; have B5 := Lib.hid (BW.out.trans h5); clear h5)
            obtain ⟨gb, hgb⟩ : ∃ gb, gb = w5.heap.size := ⟨_, rfl⟩
            obtain ⟨Y, hY⟩ : ∃ Y, Y = w5.alloc (boxO x) := ⟨_, rfl⟩
            have BY : Hid (Aft X0 Y) := Lib.hid (by rw [hY]; exact B5.out.lay _)
            have HYB : Hid (Y.heap[gb]? = some (boxO x)) := Lib.hid (by rw [hY]; exact heap_alloc_at _ _ _ hgb)
            unfold boxO at hY
            rw [← hY, ← hgb]
            clear hY hgb
            have HSY : Hid (∀ X, Aft Y X → (fun X => (X.cell? ⟨w.heap.size, 2, none⟩ = some (.slice (some ⟨g, o, none⟩) l.length c)) ∧ (X.cell? ⟨g, o + m * 4, none⟩ = some (.bool x.rd) ∧ X.cell? ⟨g, o + m * 4 + 1, none⟩ = some (.int .i64 x.k) ∧ X.cell? ⟨g, o + m * 4 + 2, none⟩ = some (.int .i64 x.t) ∧ X.cell? ⟨g, o + m * 4 + 3, none⟩ = some (.int .i64 x.n)) ∧ (X.cell? ⟨gb, 0, none⟩ = some (.bool x.rd) ∧ X.cell? ⟨gb, 1, none⟩ = some (.int .i64 x.k) ∧ X.cell? ⟨gb, 2, none⟩ = some (.int .i64 x.t) ∧ X.cell? ⟨gb, 3, none⟩ = some (.int .i64 x.n))) X) := Lib.hid fun X hX => by
              have hB := BY.out.trans hX
              exact ⟨by have := (HX.out _ hB).1.1.2.2; rw [hpp] at this; exact this, HCL.out _ hB, (cellsO ((hX.block _ (heap_lt HYB.out)).trans HYB.out)).2.1⟩
            have BYD : Hid (Aft Y Y.drew) := Lib.hid (Below.drew (Aft.refl Y))
            refine wp_region_held_drew (S := (fun X => (X.cell? ⟨w.heap.size, 2, none⟩ = some (.slice (some ⟨g, o, none⟩) l.length c)) ∧ (X.cell? ⟨g, o + m * 4, none⟩ = some (.bool x.rd) ∧ X.cell? ⟨g, o + m * 4 + 1, none⟩ = some (.int .i64 x.k) ∧ X.cell? ⟨g, o + m * 4 + 2, none⟩ = some (.int .i64 x.t) ∧ X.cell? ⟨g, o + m * 4 + 3, none⟩ = some (.int .i64 x.n)) ∧ (X.cell? ⟨gb, 0, none⟩ = some (.bool x.rd) ∧ X.cell? ⟨gb, 1, none⟩ = some (.int .i64 x.k) ∧ X.cell? ⟨gb, 2, none⟩ = some (.int .i64 x.t) ∧ X.cell? ⟨gb, 3, none⟩ = some (.int .i64 x.n)))) (by kernel_rfl) (HSY.out _ BYD.out) (fun hHeld0 => ?_)
            refine wpAnyH_take (i := 0) (v := ?_) rfl (by as_aux_lemma => kernel_rfl) (by as_aux_lemma => kernel_rfl) (by as_aux_lemma => kernel_rfl) (fun _ _ _ h => h) (Or.inl ⟨by as_aux_lemma => rfl, ?ya0⟩) (by assumption) ?qa0
            case ya0 => (intro wz hSw; (try dsimp only at hSw); go_simp <;> with_reducible rfl)
            try simp only [Act.put, List.getElem_toArray, List.getElem_cons_zero, List.setIfInBounds_toArray, List.set_cons_zero, List.set_cons_succ]
            refine wpAnyH_take (i := 1) (v := ?_) rfl (by as_aux_lemma => kernel_rfl) (by as_aux_lemma => kernel_rfl) (by as_aux_lemma => kernel_rfl) (fun _ _ _ h => h) (Or.inl ⟨by as_aux_lemma => rfl, ?ya1⟩) (by assumption) ?qa1
            case ya1 => (intro wz hSw; (try dsimp only at hSw); go_simp <;> with_reducible rfl)
            try simp only [Act.put, List.getElem_toArray, List.getElem_cons_zero, List.getElem_cons_succ, List.setIfInBounds_toArray, List.set_cons_zero, List.set_cons_succ]
            refine wpAnyH_take (i := 2) (v := ?_) rfl (by as_aux_lemma => kernel_rfl) (by as_aux_lemma => kernel_rfl) (by as_aux_lemma => kernel_rfl) (fun _ _ _ h => h) (Or.inl ⟨by as_aux_lemma => rfl, ?ya2⟩) (by assumption) ?qa2
            case ya2 => (intro wz hSw; (try dsimp only at hSw); go_simp <;> with_reducible rfl)
            try simp only [Act.put, List.getElem_toArray, List.getElem_cons_zero, List.getElem_cons_succ, List.setIfInBounds_toArray, List.set_cons_zero, List.set_cons_succ]
            refine wpAnyH_take (i := 3) (v := ?_) rfl (by as_aux_lemma => kernel_rfl) (by as_aux_lemma => kernel_rfl) (by as_aux_lemma => kernel_rfl) (fun _ _ _ h => h) (Or.inl ⟨by as_aux_lemma => rfl, ?ya3⟩) (by assumption) ?qa3
            case ya3 => (intro wz hSw; (try dsimp only at hSw); go_simp <;> with_reducible rfl)
            try simp only [Act.put, List.getElem_toArray, List.getElem_cons_zero, List.getElem_cons_succ, List.setIfInBounds_toArray, List.set_cons_zero, List.set_cons_succ]
            refine wpAnyH_take (i := 4) (v := ?_) rfl (by as_aux_lemma => kernel_rfl) (by as_aux_lemma => kernel_rfl) (by as_aux_lemma => kernel_rfl) (fun _ _ _ h => h) (Or.inl ⟨by as_aux_lemma => rfl, ?ya4⟩) (by assumption) ?qa4
            case ya4 => (intro wz hSw; (try dsimp only at hSw); go_simp <;> with_reducible rfl)
            try simp only [Act.put, List.getElem_toArray, List.getElem_cons_zero, List.getElem_cons_succ, List.setIfInBounds_toArray, List.set_cons_zero, List.set_cons_succ]
            refine wpAnyH_take (i := 5) (v := ?_) rfl (by as_aux_lemma => kernel_rfl) (by as_aux_lemma => kernel_rfl) (by as_aux_lemma => kernel_rfl) (fun _ _ _ h => h) (Or.inl ⟨by as_aux_lemma => rfl, ?ya5⟩) (by assumption) ?qa5
            case ya5 => (intro wz hSw; (try dsimp only at hSw); go_simp <;> with_reducible rfl)
            try simp only [Act.put, List.getElem_toArray, List.getElem_cons_zero, List.getElem_cons_succ, List.setIfInBounds_toArray, List.set_cons_zero, List.set_cons_succ]
            refine wpAnyH_take (i := 6) (v := ?_) rfl (by as_aux_lemma => kernel_rfl) (by as_aux_lemma => kernel_rfl) (by as_aux_lemma => kernel_rfl) (fun _ _ _ h => h) (Or.inl ⟨by as_aux_lemma => rfl, ?ya6⟩) (by assumption) ?qa6
            case ya6 => (intro wz hSw; (try dsimp only at hSw); go_simp <;> with_reducible rfl)
            try simp only [Act.put, List.getElem_toArray, List.getElem_cons_zero, List.getElem_cons_succ, List.setIfInBounds_toArray, List.set_cons_zero, List.set_cons_succ]
            refine wpAnyH_take (i := 7) (v := ?_) rfl (by as_aux_lemma => kernel_rfl) (by as_aux_lemma => kernel_rfl) (by as_aux_lemma => kernel_rfl) (fun _ _ _ h => h) (Or.inl ⟨by as_aux_lemma => rfl, ?ya7⟩) (by assumption) ?qa7
            case ya7 => (intro wz hSw; (try dsimp only at hSw); go_simp <;> with_reducible rfl)
            try simp only [Act.put, List.getElem_toArray, List.getElem_cons_zero, List.getElem_cons_succ, List.setIfInBounds_toArray, List.set_cons_zero, List.set_cons_succ]
            refine wpAnyH_take (i := 8) (v := ?_) rfl (by as_aux_lemma => kernel_rfl) (by as_aux_lemma => kernel_rfl) (by as_aux_lemma => kernel_rfl) (fun _ _ _ h => h) (Or.inl ⟨by as_aux_lemma => rfl, ?ya8⟩) (by assumption) ?qa8
            case ya8 => (intro wz hSw; (try dsimp only at hSw); go_simp <;> with_reducible rfl)
            try simp only [Act.put, List.getElem_toArray, List.getElem_cons_zero, List.getElem_cons_succ, List.setIfInBounds_toArray, List.set_cons_zero, List.set_cons_succ]
            refine wpAnyH_take (i := 9) (v := ?_) rfl (by as_aux_lemma => kernel_rfl) (by as_aux_lemma => kernel_rfl) (by as_aux_lemma => kernel_rfl) (fun _ _ _ h => h) (Or.inl ⟨by as_aux_lemma => rfl, ?ya9⟩) (by assumption) ?qa9
            case ya9 => (intro wz hSw; (try dsimp only at hSw); go_simp <;> with_reducible rfl)
            try simp only [Act.put, List.getElem_toArray, List.getElem_cons_zero, List.getElem_cons_succ, List.setIfInBounds_toArray, List.set_cons_zero, List.set_cons_succ]
            refine wpAnyH_take (i := 10) (v := ?_) rfl (by as_aux_lemma => kernel_rfl) (by as_aux_lemma => kernel_rfl) (by as_aux_lemma => kernel_rfl) (fun _ _ _ h => h) (Or.inl ⟨by as_aux_lemma => rfl, ?ya10⟩) (by assumption) ?qa10
            case ya10 => (intro wz hSw; (try dsimp only at hSw); go_simp <;> with_reducible rfl)
            try simp only [Act.put, List.getElem_toArray, List.getElem_cons_zero, List.getElem_cons_succ, List.setIfInBounds_toArray, List.set_cons_zero, List.set_cons_succ]
            refine wpAnyH_take (i := 11) (v := ?_) rfl (by as_aux_lemma => kernel_rfl) (by as_aux_lemma => kernel_rfl) (by as_aux_lemma => kernel_rfl) (fun _ _ _ h => h) (Or.inl ⟨by as_aux_lemma => rfl, ?ya11⟩) (by assumption) ?qa11
            case ya11 => (intro wz hSw; (try dsimp only at hSw); go_simp <;> with_reducible rfl)
            try simp only [Act.put, List.getElem_toArray, List.getElem_cons_zero, List.getElem_cons_succ, List.setIfInBounds_toArray, List.set_cons_zero, List.set_cons_succ]
            refine wpAnyH_take (i := 12) (v := ?_) rfl (by as_aux_lemma => kernel_rfl) (by as_aux_lemma => kernel_rfl) (by as_aux_lemma => kernel_rfl) (fun _ _ _ h => h) (Or.inl ⟨by as_aux_lemma => rfl, ?ya12⟩) (by assumption) ?qa12
            case ya12 => (intro wz hSw; (try dsimp only at hSw); go_simp <;> with_reducible rfl)
            try simp only [Act.put, List.getElem_toArray, List.getElem_cons_zero, List.getElem_cons_succ, List.setIfInBounds_toArray, List.set_cons_zero, List.set_cons_succ]
            refine wpAnyH_take (i := 13) (v := ?_) rfl (by as_aux_lemma => kernel_rfl) (by as_aux_lemma => kernel_rfl) (by as_aux_lemma => kernel_rfl) (fun _ _ _ h => h) (Or.inl ⟨by as_aux_lemma => rfl, ?ya13⟩) (by assumption) ?qa13
            case ya13 => (intro wz hSw; (try dsimp only at hSw); go_simp <;> with_reducible rfl)
            try simp only [Act.put, List.getElem_toArray, List.getElem_cons_zero, List.getElem_cons_succ, List.setIfInBounds_toArray, List.set_cons_zero, List.set_cons_succ]
            refine wpAnyH_take (i := 14) (v := ?_) rfl (by as_aux_lemma => kernel_rfl) (by as_aux_lemma => kernel_rfl) (by as_aux_lemma => kernel_rfl) (fun _ _ _ h => h) (Or.inl ⟨by as_aux_lemma => rfl, ?ya14⟩) (by assumption) ?qa14
            case ya14 => (intro wz hSw; (try dsimp only at hSw); go_simp <;> with_reducible rfl)
            try simp only [Act.put, List.getElem_toArray, List.getElem_cons_zero, List.getElem_cons_succ, List.setIfInBounds_toArray, List.set_cons_zero, List.set_cons_succ]
            refine wpAnyH_take (i := 15) (v := ?_) rfl (by as_aux_lemma => kernel_rfl) (by as_aux_lemma => kernel_rfl) (by as_aux_lemma => kernel_rfl) (fun _ _ _ h => h) (Or.inl ⟨by as_aux_lemma => rfl, ?ya15⟩) (by assumption) ?qa15
            case ya15 => (intro wz hSw; (try dsimp only at hSw); go_simp <;> with_reducible rfl)
            try simp only [Act.put, List.getElem_toArray, List.getElem_cons_zero, List.getElem_cons_succ, List.setIfInBounds_toArray, List.set_cons_zero, List.set_cons_succ]
            refine wpAnyH_take (i := 16) (v := ?_) rfl (by as_aux_lemma => kernel_rfl) (by as_aux_lemma => kernel_rfl) (by as_aux_lemma => kernel_rfl) (fun _ _ _ h => h) (Or.inl ⟨by as_aux_lemma => rfl, ?ya16⟩) (by assumption) ?qa16
            case ya16 => (intro wz hSw; (try dsimp only at hSw); go_simp <;> with_reducible rfl)
            try simp only [Act.put, List.getElem_toArray, List.getElem_cons_zero, List.getElem_cons_succ, List.setIfInBounds_toArray, List.set_cons_zero, List.set_cons_succ]
            refine wpAnyH_take (i := 17) (v := ?_) rfl (by as_aux_lemma => kernel_rfl) (by as_aux_lemma => kernel_rfl) (by as_aux_lemma => kernel_rfl) (fun _ _ _ h => h) (Or.inl ⟨by as_aux_lemma => rfl, ?ya17⟩) (by assumption) ?qa17
            case ya17 => (intro wz hSw; (try dsimp only at hSw); go_simp <;> with_reducible rfl)
            try simp only [Act.put, List.getElem_toArray, List.getElem_cons_zero, List.getElem_cons_succ, List.setIfInBounds_toArray, List.set_cons_zero, List.set_cons_succ]
            refine wpAnyH_take (i := 18) (v := ?_) rfl (by as_aux_lemma => kernel_rfl) (by as_aux_lemma => kernel_rfl) (by as_aux_lemma => kernel_rfl) (fun _ _ _ h => h) (Or.inl ⟨by as_aux_lemma => rfl, ?ya18⟩) (by assumption) ?qa18
            case ya18 => (intro wz hSw; (try dsimp only at hSw); go_simp <;> with_reducible rfl)
            try simp only [Act.put, List.getElem_toArray, List.getElem_cons_zero, List.getElem_cons_succ, List.setIfInBounds_toArray, List.set_cons_zero, List.set_cons_succ]
            refine wpAnyH_take (i := 19) (v := ?_) rfl (by as_aux_lemma => kernel_rfl) (by as_aux_lemma => kernel_rfl) (by as_aux_lemma => kernel_rfl) (fun _ _ _ h => h) (Or.inl ⟨by as_aux_lemma => rfl, ?ya19⟩) (by assumption) ?qa19
            case ya19 => (intro wz hSw; (try dsimp only at hSw); go_simp <;> with_reducible rfl)
            try simp only [Act.put, List.getElem_toArray, List.getElem_cons_zero, List.getElem_cons_succ, List.setIfInBounds_toArray, List.set_cons_zero, List.set_cons_succ]
            refine wpAnyH_done (by as_aux_lemma => kernel_rfl) ?_ _
            go_wp2_with fail
            go_roundw
            case rel => exact ⟨_, _, _, _, ⟨i + 1, (show Value.int .i64 ((i : Int) + 1) = .int .i64 ((i + 1 : Nat) : Int) by go_num), j + 1, (show Value.int .i64 ((j : Int) + 1) = .int .i64 ((j + 1 : Nat) : Int) by go_num), ⟨#[]⟩, rfl, by have := HSZ.out; omega, HN, Lib.hid (Below.drew BY.out)⟩, rfl, rfl, rfl, rfl⟩
            case measure => simp [intOf]; omega
          · have hltN : ¬ (i : Int) < (sb.size : Int) := by omega
            clear hby HBY HLT
            go_upto_region 14 with (go_at_call 7; refine (HRX.out _).mono ?_; rintro e w5 ⟨rfl, h5⟩; have B5 := Lib.hid (BW.out.trans h5); clear h5)
            obtain ⟨gb, hgb⟩ : ∃ gb, gb = w5.heap.size := ⟨_, rfl⟩
            obtain ⟨Y, hY⟩ : ∃ Y, Y = w5.alloc (boxO x) := ⟨_, rfl⟩
            have BY : Hid (Aft X0 Y) := Lib.hid (by rw [hY]; exact B5.out.lay _)
            have HYB : Hid (Y.heap[gb]? = some (boxO x)) := Lib.hid (by rw [hY]; exact heap_alloc_at _ _ _ hgb)
            unfold boxO at hY
            rw [← hY, ← hgb]
            clear hY hgb
            have HSY : Hid (∀ X, Aft Y X → (fun X => (X.cell? ⟨w.heap.size, 2, none⟩ = some (.slice (some ⟨g, o, none⟩) l.length c)) ∧ (X.cell? ⟨g, o + m * 4, none⟩ = some (.bool x.rd) ∧ X.cell? ⟨g, o + m * 4 + 1, none⟩ = some (.int .i64 x.k) ∧ X.cell? ⟨g, o + m * 4 + 2, none⟩ = some (.int .i64 x.t) ∧ X.cell? ⟨g, o + m * 4 + 3, none⟩ = some (.int .i64 x.n)) ∧ (X.cell? ⟨gb, 0, none⟩ = some (.bool x.rd) ∧ X.cell? ⟨gb, 1, none⟩ = some (.int .i64 x.k) ∧ X.cell? ⟨gb, 2, none⟩ = some (.int .i64 x.t) ∧ X.cell? ⟨gb, 3, none⟩ = some (.int .i64 x.n))) X) := Lib.hid fun X hX => by
              have hB := BY.out.trans hX
              exact ⟨by have := (HX.out _ hB).1.1.2.2; rw [hpp] at this; exact this, HCL.out _ hB, (cellsO ((hX.block _ (heap_lt HYB.out)).trans HYB.out)).2.1⟩
            have BYD : Hid (Aft Y Y.drew) := Lib.hid (Below.drew (Aft.refl Y))
            refine wp_region_held_drew (S := (fun X => (X.cell? ⟨w.heap.size, 2, none⟩ = some (.slice (some ⟨g, o, none⟩) l.length c)) ∧ (X.cell? ⟨g, o + m * 4, none⟩ = some (.bool x.rd) ∧ X.cell? ⟨g, o + m * 4 + 1, none⟩ = some (.int .i64 x.k) ∧ X.cell? ⟨g, o + m * 4 + 2, none⟩ = some (.int .i64 x.t) ∧ X.cell? ⟨g, o + m * 4 + 3, none⟩ = some (.int .i64 x.n)) ∧ (X.cell? ⟨gb, 0, none⟩ = some (.bool x.rd) ∧ X.cell? ⟨gb, 1, none⟩ = some (.int .i64 x.k) ∧ X.cell? ⟨gb, 2, none⟩ = some (.int .i64 x.t) ∧ X.cell? ⟨gb, 3, none⟩ = some (.int .i64 x.n)))) (by kernel_rfl) (HSY.out _ BYD.out) (fun hHeld0 => ?_)
            refine wpAnyH_take (i := 0) (v := ?_) rfl (by as_aux_lemma => kernel_rfl) (by as_aux_lemma => kernel_rfl) (by as_aux_lemma => kernel_rfl) (fun _ _ _ h => h) (Or.inl ⟨by as_aux_lemma => rfl, ?yb0⟩) (by assumption) ?qb0
            case yb0 => (intro wz hSw; (try dsimp only at hSw); go_simp <;> with_reducible rfl)
            try simp only [Act.put, List.getElem_toArray, List.getElem_cons_zero, List.setIfInBounds_toArray, List.set_cons_zero, List.set_cons_succ]
            refine wpAnyH_take (i := 1) (v := ?_) rfl (by as_aux_lemma => kernel_rfl) (by as_aux_lemma => kernel_rfl) (by as_aux_lemma => kernel_rfl) (fun _ _ _ h => h) (Or.inl ⟨by as_aux_lemma => rfl, ?yb1⟩) (by assumption) ?qb1
            case yb1 => (intro wz hSw; (try dsimp only at hSw); go_simp <;> with_reducible rfl)
            try simp only [Act.put, List.getElem_toArray, List.getElem_cons_zero, List.getElem_cons_succ, List.setIfInBounds_toArray, List.set_cons_zero, List.set_cons_succ]
            refine wpAnyH_take (i := 2) (v := ?_) rfl (by as_aux_lemma => kernel_rfl) (by as_aux_lemma => kernel_rfl) (by as_aux_lemma => kernel_rfl) (fun _ _ _ h => h) (Or.inl ⟨by as_aux_lemma => rfl, ?yb2⟩) (by assumption) ?qb2
            case yb2 => (intro wz hSw; (try dsimp only at hSw); go_simp <;> with_reducible rfl)
            try simp only [Act.put, List.getElem_toArray, List.getElem_cons_zero, List.getElem_cons_succ, List.setIfInBounds_toArray, List.set_cons_zero, List.set_cons_succ]
            refine wpAnyH_take (i := 3) (v := ?_) rfl (by as_aux_lemma => kernel_rfl) (by as_aux_lemma => kernel_rfl) (by as_aux_lemma => kernel_rfl) (fun _ _ _ h => h) (Or.inl ⟨by as_aux_lemma => rfl, ?yb3⟩) (by assumption) ?qb3
            case yb3 => (intro wz hSw; (try dsimp only at hSw); go_simp <;> with_reducible rfl)
            try simp only [Act.put, List.getElem_toArray, List.getElem_cons_zero, List.getElem_cons_succ, List.setIfInBounds_toArray, List.set_cons_zero, List.set_cons_succ]
            refine wpAnyH_take (i := 4) (v := ?_) rfl (by as_aux_lemma => kernel_rfl) (by as_aux_lemma => kernel_rfl) (by as_aux_lemma => kernel_rfl) (fun _ _ _ h => h) (Or.inl ⟨by as_aux_lemma => rfl, ?yb4⟩) (by assumption) ?qb4
            case yb4 => (intro wz hSw; (try dsimp only at hSw); go_simp <;> with_reducible rfl)
            try simp only [Act.put, List.getElem_toArray, List.getElem_cons_zero, List.getElem_cons_succ, List.setIfInBounds_toArray, List.set_cons_zero, List.set_cons_succ]
            refine wpAnyH_take (i := 5) (v := ?_) rfl (by as_aux_lemma => kernel_rfl) (by as_aux_lemma => kernel_rfl) (by as_aux_lemma => kernel_rfl) (fun _ _ _ h => h) (Or.inl ⟨by as_aux_lemma => rfl, ?yb5⟩) (by assumption) ?qb5
            case yb5 => (intro wz hSw; (try dsimp only at hSw); go_simp <;> with_reducible rfl)
            try simp only [Act.put, List.getElem_toArray, List.getElem_cons_zero, List.getElem_cons_succ, List.setIfInBounds_toArray, List.set_cons_zero, List.set_cons_succ]
            refine wpAnyH_take (i := 6) (v := ?_) rfl (by as_aux_lemma => kernel_rfl) (by as_aux_lemma => kernel_rfl) (by as_aux_lemma => kernel_rfl) (fun _ _ _ h => h) (Or.inl ⟨by as_aux_lemma => rfl, ?yb6⟩) (by assumption) ?qb6
            case yb6 => (intro wz hSw; (try dsimp only at hSw); go_simp <;> with_reducible rfl)
            try simp only [Act.put, List.getElem_toArray, List.getElem_cons_zero, List.getElem_cons_succ, List.setIfInBounds_toArray, List.set_cons_zero, List.set_cons_succ]
            refine wpAnyH_take (i := 7) (v := ?_) rfl (by as_aux_lemma => kernel_rfl) (by as_aux_lemma => kernel_rfl) (by as_aux_lemma => kernel_rfl) (fun _ _ _ h => h) (Or.inl ⟨by as_aux_lemma => rfl, ?yb7⟩) (by assumption) ?qb7
            case yb7 => (intro wz hSw; (try dsimp only at hSw); go_simp <;> with_reducible rfl)
            try simp only [Act.put, List.getElem_toArray, List.getElem_cons_zero, List.getElem_cons_succ, List.setIfInBounds_toArray, List.set_cons_zero, List.set_cons_succ]
            refine wpAnyH_take (i := 8) (v := ?_) rfl (by as_aux_lemma => kernel_rfl) (by as_aux_lemma => kernel_rfl) (by as_aux_lemma => kernel_rfl) (fun _ _ _ h => h) (Or.inl ⟨by as_aux_lemma => rfl, ?yb8⟩) (by assumption) ?qb8
            case yb8 => (intro wz hSw; (try dsimp only at hSw); go_simp <;> with_reducible rfl)
            try simp only [Act.put, List.getElem_toArray, List.getElem_cons_zero, List.getElem_cons_succ, List.setIfInBounds_toArray, List.set_cons_zero, List.set_cons_succ]
            refine wpAnyH_take (i := 9) (v := ?_) rfl (by as_aux_lemma => kernel_rfl) (by as_aux_lemma => kernel_rfl) (by as_aux_lemma => kernel_rfl) (fun _ _ _ h => h) (Or.inl ⟨by as_aux_lemma => rfl, ?yb9⟩) (by assumption) ?qb9
            case yb9 => (intro wz hSw; (try dsimp only at hSw); go_simp <;> with_reducible rfl)
            try simp only [Act.put, List.getElem_toArray, List.getElem_cons_zero, List.getElem_cons_succ, List.setIfInBounds_toArray, List.set_cons_zero, List.set_cons_succ]
            refine wpAnyH_take (i := 10) (v := ?_) rfl (by as_aux_lemma => kernel_rfl) (by as_aux_lemma => kernel_rfl) (by as_aux_lemma => kernel_rfl) (fun _ _ _ h => h) (Or.inl ⟨by as_aux_lemma => rfl, ?yb10⟩) (by assumption) ?qb10
            case yb10 => (intro wz hSw; (try dsimp only at hSw); go_simp <;> with_reducible rfl)
            try simp only [Act.put, List.getElem_toArray, List.getElem_cons_zero, List.getElem_cons_succ, List.setIfInBounds_toArray, List.set_cons_zero, List.set_cons_succ]
            refine wpAnyH_take (i := 11) (v := ?_) rfl (by as_aux_lemma => kernel_rfl) (by as_aux_lemma => kernel_rfl) (by as_aux_lemma => kernel_rfl) (fun _ _ _ h => h) (Or.inl ⟨by as_aux_lemma => rfl, ?yb11⟩) (by assumption) ?qb11
            case yb11 => (intro wz hSw; (try dsimp only at hSw); go_simp <;> with_reducible rfl)
            try simp only [Act.put, List.getElem_toArray, List.getElem_cons_zero, List.getElem_cons_succ, List.setIfInBounds_toArray, List.set_cons_zero, List.set_cons_succ]
            refine wpAnyH_take (i := 12) (v := ?_) rfl (by as_aux_lemma => kernel_rfl) (by as_aux_lemma => kernel_rfl) (by as_aux_lemma => kernel_rfl) (fun _ _ _ h => h) (Or.inl ⟨by as_aux_lemma => rfl, ?yb12⟩) (by assumption) ?qb12
            case yb12 => (intro wz hSw; (try dsimp only at hSw); go_simp <;> with_reducible rfl)
            try simp only [Act.put, List.getElem_toArray, List.getElem_cons_zero, List.getElem_cons_succ, List.setIfInBounds_toArray, List.set_cons_zero, List.set_cons_succ]
            refine wpAnyH_take (i := 13) (v := ?_) rfl (by as_aux_lemma => kernel_rfl) (by as_aux_lemma => kernel_rfl) (by as_aux_lemma => kernel_rfl) (fun _ _ _ h => h) (Or.inl ⟨by as_aux_lemma => rfl, ?yb13⟩) (by assumption) ?qb13
            case yb13 => (intro wz hSw; (try dsimp only at hSw); go_simp <;> with_reducible rfl)
            try simp only [Act.put, List.getElem_toArray, List.getElem_cons_zero, List.getElem_cons_succ, List.setIfInBounds_toArray, List.set_cons_zero, List.set_cons_succ]
            refine wpAnyH_take (i := 14) (v := ?_) rfl (by as_aux_lemma => kernel_rfl) (by as_aux_lemma => kernel_rfl) (by as_aux_lemma => kernel_rfl) (fun _ _ _ h => h) (Or.inl ⟨by as_aux_lemma => rfl, ?yb14⟩) (by assumption) ?qb14
            case yb14 => (intro wz hSw; (try dsimp only at hSw); go_simp <;> with_reducible rfl)
            try simp only [Act.put, List.getElem_toArray, List.getElem_cons_zero, List.getElem_cons_succ, List.setIfInBounds_toArray, List.set_cons_zero, List.set_cons_succ]
            refine wpAnyH_take (i := 15) (v := ?_) rfl (by as_aux_lemma => kernel_rfl) (by as_aux_lemma => kernel_rfl) (by as_aux_lemma => kernel_rfl) (fun _ _ _ h => h) (Or.inl ⟨by as_aux_lemma => rfl, ?yb15⟩) (by assumption) ?qb15
            case yb15 => (intro wz hSw; (try dsimp only at hSw); go_simp <;> with_reducible rfl)
            try simp only [Act.put, List.getElem_toArray, List.getElem_cons_zero, List.getElem_cons_succ, List.setIfInBounds_toArray, List.set_cons_zero, List.set_cons_succ]
            refine wpAnyH_take (i := 16) (v := ?_) rfl (by as_aux_lemma => kernel_rfl) (by as_aux_lemma => kernel_rfl) (by as_aux_lemma => kernel_rfl) (fun _ _ _ h => h) (Or.inl ⟨by as_aux_lemma => rfl, ?yb16⟩) (by assumption) ?qb16
            case yb16 => (intro wz hSw; (try dsimp only at hSw); go_simp <;> with_reducible rfl)
            try simp only [Act.put, List.getElem_toArray, List.getElem_cons_zero, List.getElem_cons_succ, List.setIfInBounds_toArray, List.set_cons_zero, List.set_cons_succ]
            refine wpAnyH_take (i := 17) (v := ?_) rfl (by as_aux_lemma => kernel_rfl) (by as_aux_lemma => kernel_rfl) (by as_aux_lemma => kernel_rfl) (fun _ _ _ h => h) (Or.inl ⟨by as_aux_lemma => rfl, ?yb17⟩) (by assumption) ?qb17
            case yb17 => (intro wz hSw; (try dsimp only at hSw); go_simp <;> with_reducible rfl)
            try simp only [Act.put, List.getElem_toArray, List.getElem_cons_zero, List.getElem_cons_succ, List.setIfInBounds_toArray, List.set_cons_zero, List.set_cons_succ]
            refine wpAnyH_take (i := 18) (v := ?_) rfl (by as_aux_lemma => kernel_rfl) (by as_aux_lemma => kernel_rfl) (by as_aux_lemma => kernel_rfl) (fun _ _ _ h => h) (Or.inl ⟨by as_aux_lemma => rfl, ?yb18⟩) (by assumption) ?qb18
            case yb18 => (intro wz hSw; (try dsimp only at hSw); go_simp <;> with_reducible rfl)
            try simp only [Act.put, List.getElem_toArray, List.getElem_cons_zero, List.getElem_cons_succ, List.setIfInBounds_toArray, List.set_cons_zero, List.set_cons_succ]
            refine wpAnyH_take (i := 19) (v := ?_) rfl (by as_aux_lemma => kernel_rfl) (by as_aux_lemma => kernel_rfl) (by as_aux_lemma => kernel_rfl) (fun _ _ _ h => h) (Or.inl ⟨by as_aux_lemma => rfl, ?yb19⟩) (by assumption) ?qb19
            case yb19 => (intro wz hSw; (try dsimp only at hSw); go_simp <;> with_reducible rfl)
            try simp only [Act.put, List.getElem_toArray, List.getElem_cons_zero, List.getElem_cons_succ, List.setIfInBounds_toArray, List.set_cons_zero, List.set_cons_succ]
            refine wpAnyH_done (by as_aux_lemma => kernel_rfl) ?_ _
            go_wp2_with fail
            go_roundw
            case rel => exact ⟨_, _, _, _, ⟨i + 1, (show Value.int .i64 ((i : Int) + 1) = .int .i64 ((i + 1 : Nat) : Int) by go_num), j + 1, (show Value.int .i64 ((j : Int) + 1) = .int .i64 ((j + 1 : Nat) : Int) by go_num), ⟨#[]⟩, rfl, by have := HSZ.out; omega, HN, Lib.hid (Below.drew BY.out)⟩, rfl, rfl, rfl, rfl⟩
            case measure => simp [intOf]; omega
        · have hj2 : ¬ (2 : Int) ≤ (j : Int) := by omega
          by_cases hlt : i < sb.size
          · have hb1 : sb[i] = 32 := hby hlt
            have hne : ((sb[i].toNat : Int) != 32) = false := by rw [hb1]; rfl
            have hltI : (i : Int) < (sb.size : Int) := by omega
            clear hby hb1 HBY HLT
            go_wp2_with fail
            go_roundw
            case rel => exact ⟨i + 1, j + 1, ⟨#[]⟩, by go_num, by go_num, rfl, by have := HSZ.out; omega, HN, BW⟩
            case measure => simp [intOf]; omega
          · have hltN : ¬ (i : Int) < (sb.size : Int) := by omega
            clear hby HBY HLT
            go_wp2_with fail
            go_roundw
            case rel => exact ⟨i + 1, j + 1, ⟨#[]⟩, by go_num, by go_num, rfl, by have := HSZ.out; omega, HN, BW⟩
            case measure => simp [intOf]; omega
    · have hgt : ¬ (i : Int) ≤ (sb.size : Int) := by have := HLE.out; omega
      have hjw : IntKind.i64.wrap ((l.length : Int) + 2) = (j : Int) := by
        have := HWL.out
        rw [IntKind.wrap_i64]; omega
      have hjj : ((j : Int) == (j : Int)) = true := by simp
      have hq := HQ.out
      have BWD : Hid (Aft X0 wr.drew) := Lib.hid (Below.drew BW.out)
      clear e1 e2 HS HPL HBY HLT
      go_upto_region 18 with fail
      refine wp_region_held_drew (S := (fun X => (X.cell? ⟨w.heap.size, 0, none⟩ = some (.int .i64 id) ∧ X.cell? ⟨w.heap.size, 1, none⟩ = some (.bool d) ∧ X.cell? ⟨w.heap.size, 2, none⟩ = some (.slice p l.length c)) ∧ (X.cell? ⟨w.heap.size + 1, 0, none⟩ = some (.int .i64 id2) ∧ X.cell? ⟨w.heap.size + 1, 1, none⟩ = some (.bool d2) ∧ X.cell? ⟨w.heap.size + 1, 2, none⟩ = some (.slice p2 l2.length c2)))) (by kernel_rfl) ((HX.out _ BWD.out).1) (fun hHeld0 => ?_)
      refine wpAnyH_take (i := 0) (v := ?_) rfl (by as_aux_lemma => kernel_rfl) (by as_aux_lemma => kernel_rfl) (by as_aux_lemma => kernel_rfl) (fun _ _ _ h => h) (Or.inl ⟨by as_aux_lemma => rfl, ?yz0⟩) (by assumption) ?qz0
      case yz0 => (intro wz hSw; (try dsimp only at hSw); go_simp <;> with_reducible rfl)
      try simp only [Act.put, List.getElem_toArray, List.getElem_cons_zero, List.setIfInBounds_toArray, List.set_cons_zero, List.set_cons_succ]
      refine wpAnyH_take (i := 1) (v := ?_) rfl (by as_aux_lemma => kernel_rfl) (by as_aux_lemma => kernel_rfl) (by as_aux_lemma => kernel_rfl) (fun _ _ _ h => h) (Or.inl ⟨by as_aux_lemma => rfl, ?yz1⟩) (by assumption) ?qz1
      case yz1 => (intro wz hSw; (try dsimp only at hSw); go_simp <;> with_reducible rfl)
      try simp only [Act.put, List.getElem_toArray, List.getElem_cons_zero, List.getElem_cons_succ, List.setIfInBounds_toArray, List.set_cons_zero, List.set_cons_succ]
      refine wpAnyH_take (i := 2) (v := ?_) rfl (by as_aux_lemma => kernel_rfl) (by as_aux_lemma => kernel_rfl) (by as_aux_lemma => kernel_rfl) (fun _ _ _ h => h) (Or.inl ⟨by as_aux_lemma => rfl, ?yz2⟩) (by assumption) ?qz2
      case yz2 => (intro wz hSw; (try dsimp only at hSw); go_simp <;> with_reducible rfl)
      try simp only [Act.put, List.getElem_toArray, List.getElem_cons_zero, List.getElem_cons_succ, List.setIfInBounds_toArray, List.set_cons_zero, List.set_cons_succ]
      refine wpAnyH_take (i := 3) (v := ?_) rfl (by as_aux_lemma => kernel_rfl) (by as_aux_lemma => kernel_rfl) (by as_aux_lemma => kernel_rfl) (fun _ _ _ h => h) (Or.inl ⟨by as_aux_lemma => rfl, ?yz3⟩) (by assumption) ?qz3
      case yz3 => (intro wz hSw; (try dsimp only at hSw); go_simp <;> with_reducible rfl)
      try simp only [Act.put, List.getElem_toArray, List.getElem_cons_zero, List.getElem_cons_succ, List.setIfInBounds_toArray, List.set_cons_zero, List.set_cons_succ]
      refine wpAnyH_take (i := 4) (v := ?_) rfl (by as_aux_lemma => kernel_rfl) (by as_aux_lemma => kernel_rfl) (by as_aux_lemma => kernel_rfl) (fun _ _ _ h => h) (Or.inl ⟨by as_aux_lemma => rfl, ?yz4⟩) (by assumption) ?qz4
      case yz4 => (intro wz hSw; (try dsimp only at hSw); go_simp <;> with_reducible rfl)
      try simp only [Act.put, List.getElem_toArray, List.getElem_cons_zero, List.getElem_cons_succ, List.setIfInBounds_toArray, List.set_cons_zero, List.set_cons_succ]
      refine wpAnyH_take (i := 5) (v := ?_) rfl (by as_aux_lemma => kernel_rfl) (by as_aux_lemma => kernel_rfl) (by as_aux_lemma => kernel_rfl) (fun _ _ _ h => h) (Or.inl ⟨by as_aux_lemma => rfl, ?yz5⟩) (by assumption) ?qz5
      case yz5 => (intro wz hSw; (try dsimp only at hSw); go_simp <;> with_reducible rfl)
      try simp only [Act.put, List.getElem_toArray, List.getElem_cons_zero, List.getElem_cons_succ, List.setIfInBounds_toArray, List.set_cons_zero, List.set_cons_succ]
      refine wpAnyH_take (i := 6) (v := ?_) rfl (by as_aux_lemma => kernel_rfl) (by as_aux_lemma => kernel_rfl) (by as_aux_lemma => kernel_rfl) (fun _ _ _ h => h) (Or.inl ⟨by as_aux_lemma => rfl, ?yz6⟩) (by assumption) ?qz6
      case yz6 => (intro wz hSw; (try dsimp only at hSw); go_simp <;> with_reducible rfl)
      try simp only [Act.put, List.getElem_toArray, List.getElem_cons_zero, List.getElem_cons_succ, List.setIfInBounds_toArray, List.set_cons_zero, List.set_cons_succ]
      refine wpAnyH_take (i := 7) (v := ?_) rfl (by as_aux_lemma => kernel_rfl) (by as_aux_lemma => kernel_rfl) (by as_aux_lemma => kernel_rfl) (fun _ _ _ h => h) (Or.inl ⟨by as_aux_lemma => rfl, ?yz7⟩) (by assumption) ?qz7
      case yz7 => (intro wz hSw; (try dsimp only at hSw); go_simp <;> with_reducible rfl)
      try simp only [Act.put, List.getElem_toArray, List.getElem_cons_zero, List.getElem_cons_succ, List.setIfInBounds_toArray, List.set_cons_zero, List.set_cons_succ]
      refine wpAnyH_take (i := 8) (v := ?_) rfl (by as_aux_lemma => kernel_rfl) (by as_aux_lemma => kernel_rfl) (by as_aux_lemma => kernel_rfl) (fun _ _ _ h => h) (Or.inl ⟨by as_aux_lemma => rfl, ?yz8⟩) (by assumption) ?qz8
      case yz8 => (intro wz hSw; (try dsimp only at hSw); go_simp <;> with_reducible rfl)
      try simp only [Act.put, List.getElem_toArray, List.getElem_cons_zero, List.getElem_cons_succ, List.setIfInBounds_toArray, List.set_cons_zero, List.set_cons_succ]
      refine wpAnyH_take (i := 10) (v := ?_) rfl (by as_aux_lemma => kernel_rfl) (by as_aux_lemma => kernel_rfl) (by as_aux_lemma => kernel_rfl) (fun _ _ _ h => h) (Or.inl ⟨by as_aux_lemma => rfl, ?yz10⟩) (by assumption) ?qz10
      case yz10 => (intro wz hSw; (try dsimp only at hSw); go_simp <;> with_reducible rfl)
      try simp only [Act.put, List.getElem_toArray, List.getElem_cons_zero, List.getElem_cons_succ, List.setIfInBounds_toArray, List.set_cons_zero, List.set_cons_succ]
      refine wpAnyH_take (i := 11) (v := ?_) rfl (by as_aux_lemma => kernel_rfl) (by as_aux_lemma => kernel_rfl) (by as_aux_lemma => kernel_rfl) (fun _ _ _ h => h) (Or.inl ⟨by as_aux_lemma => rfl, ?yz11⟩) (by assumption) ?qz11
      case yz11 => (intro wz hSw; (try dsimp only at hSw); go_simp <;> with_reducible rfl)
      try simp only [Act.put, List.getElem_toArray, List.getElem_cons_zero, List.getElem_cons_succ, List.setIfInBounds_toArray, List.set_cons_zero, List.set_cons_succ]
      refine wpAnyH_ready (rs := [9]) (by as_aux_lemma => kernel_rfl) (by simp) ?_
      refine AllReadyH.cons rfl (fun K hK => ?_) AllReadyH.nil
      go_simp
      refine (k_same id id2 d d2 r (HX.out _ BWD.out).2.1 (HX.out _ BWD.out).2.2 HSM.out).mono ?_
      rintro e u1 ⟨rfl, hb⟩
      have B1 := Lib.hid (Aft.trans BWD.out hb)
      clear hb
      refine hK.out _ _ (HX.out _ B1.out).1 (fun hHeld1 => ?_)
      clear hK K
      try simp only [Act.put, List.getElem_toArray, List.getElem_cons_zero, List.getElem_cons_succ, List.setIfInBounds_toArray, List.set_cons_zero, List.set_cons_succ]
      refine wpAnyH_ready (rs := [12]) (by as_aux_lemma => kernel_rfl) (by simp) ?_
      refine AllReadyH.cons rfl (fun K hK => ?_) AllReadyH.nil
      go_simp
      refine (HT2.out _ B1.out).mono ?_
      rintro e u2 ⟨rfl, hb⟩
      have B2 := Lib.hid (Aft.trans B1.out hb)
      clear hb
      refine hK.out _ _ (HX.out _ B2.out).1 (fun hHeld2 => ?_)
      clear hK K
      try simp only [Act.put, List.getElem_toArray, List.getElem_cons_zero, List.getElem_cons_succ, List.setIfInBounds_toArray, List.set_cons_zero, List.set_cons_succ]
      refine wpAnyH_take (i := 13) (v := ?_) rfl (by as_aux_lemma => kernel_rfl) (by as_aux_lemma => kernel_rfl) (by as_aux_lemma => kernel_rfl) (fun _ _ _ h => h) (Or.inl ⟨by as_aux_lemma => rfl, ?yz13⟩) (by assumption) ?qz13
      case yz13 => (intro wz hSw; (try dsimp only at hSw); go_simp <;> with_reducible rfl)
      try simp only [Act.put, List.getElem_toArray, List.getElem_cons_zero, List.getElem_cons_succ, List.setIfInBounds_toArray, List.set_cons_zero, List.set_cons_succ]
      refine wpAnyH_take (i := 14) (v := ?_) rfl (by as_aux_lemma => kernel_rfl) (by as_aux_lemma => kernel_rfl) (by as_aux_lemma => kernel_rfl) (fun _ _ _ h => h) (Or.inl ⟨by as_aux_lemma => rfl, ?yz14⟩) (by assumption) ?qz14
      case yz14 => (intro wz hSw; (try dsimp only at hSw); go_simp <;> with_reducible rfl)
      try simp only [Act.put, List.getElem_toArray, List.getElem_cons_zero, List.getElem_cons_succ, List.setIfInBounds_toArray, List.set_cons_zero, List.set_cons_succ]
      refine wpAnyH_take (i := 15) (v := ?_) rfl (by as_aux_lemma => kernel_rfl) (by as_aux_lemma => kernel_rfl) (by as_aux_lemma => kernel_rfl) (fun _ _ _ h => h) (Or.inl ⟨by as_aux_lemma => rfl, ?yz15⟩) (by assumption) ?qz15
      case yz15 => (intro wz hSw; (try dsimp only at hSw); go_simp <;> with_reducible rfl)
      try simp only [Act.put, List.getElem_toArray, List.getElem_cons_zero, List.getElem_cons_succ, List.setIfInBounds_toArray, List.set_cons_zero, List.set_cons_succ]
      refine wpAnyH_take (i := 16) (v := ?_) rfl (by as_aux_lemma => kernel_rfl) (by as_aux_lemma => kernel_rfl) (by as_aux_lemma => kernel_rfl) (fun _ _ _ h => h) (Or.inl ⟨by as_aux_lemma => rfl, ?yz16⟩) (by assumption) ?qz16
      case yz16 => (intro wz hSw; (try dsimp only at hSw); go_simp <;> with_reducible rfl)
      try simp only [Act.put, List.getElem_toArray, List.getElem_cons_zero, List.getElem_cons_succ, List.setIfInBounds_toArray, List.set_cons_zero, List.set_cons_succ]
      refine wpAnyH_done (by as_aux_lemma => kernel_rfl) ?_ _
      go_wp2_with fail
      exact HE.out _ (HA0.out.trans B2.out)
end Go.Proofs.YtaogofjnpnheeaaGreatDoor.Tx
