/-
  Contracts of small functions, several texts laid into one. Not a statement of the seat.
-/
import Derived.Test.YtimgdkafennohaaGreatDoorHead10
import Derived.Test.YtimgdkafennohaaGreatDoorHead20
import Derived.Test.YtimgdkafennohaaGreatDoorSc6
import Derived.Test.YtimgdkafennohaaGreatDoorRowList
import Derived.Test.YtimgdkafennohaaGreatDoorScN
import Derived.Test.YtimgdkafennohaaGreatDoorHead19
import Derived.Test.YtimgdkafennohaaGreatDoorHead6
namespace Go.Proofs.YtimgdkafennohaaGreatDoor.Sc
open Go.ChangeShapes Go.WideShapes Go.ChangeAt Go.RowKit Base F Bits
/-- A slice's header. -/
structure Tri where
  p : Option Addr
  n : Nat
  c : Nat
  deriving Inhabited
def Tri.enc (t : Tri) : Value := .slice t.p t.n t.c
def encs (n : Nat) (T : Nat → Tri) : Array Value := ((List.range n).map fun i => (T i).enc).toArray
theorem encs_at {n : Nat} {T : Nat → Tri} {i : Nat} (h : i < n) : (encs n T)[i]? = some (T i).enc := by
  unfold encs
  simp [h]
def upT (T : Nat → Tri) (x : Nat) (t : Tri) : Nat → Tri := fun i => if i = x then t else T i
theorem encs_put {n : Nat} {T : Nat → Tri} {i : Nat} {t : Tri} (h : i < n) : (encs n T).setIfInBounds i t.enc = encs n (upT T i t) := by
  apply Array.ext_getElem?
  intro k
  rw [Array.getElem?_setIfInBounds]
  unfold encs upT
  by_cases e : i = k
  · subst e
    simp [h]
  · by_cases hk : k < n
    · simp [hk, e, Ne.symm e]
    · simp [hk, e]
theorem encs_nil (n : Nat) : madeCells #[.slice none 0 0] n = encs n (fun _ => ⟨none, 0, 0⟩) := by
  unfold madeCells encs Tri.enc
  apply Array.ext_getElem?
  intro k
  simp
  by_cases h : k < n
  · simp [h, Nat.mod_one]
  · simp [h]
/-- Members on their way: a block of n slices of the call's own, each of which lies apart from the others. -/
structure CI (B n : Nat) (M : Nat) (L : Nat → List Int) (w0 w : World) (T : Nat → Tri) : Prop where
  below : Below B w0 w
  ge : B ≤ M
  size : B ≤ w.heap.size
  blk : w.heap[M]? = some (.cells (encs n T) 32)
  own : ∀ i, i < n → Lst.OwnI B w (T i).enc (L i)
  apart : ∀ i j, i < n → j < n → i ≠ j → ∀ g, (T i).enc.ownBlock = some g → (T j).enc.ownBlock ≠ some g
section
variable {B n M : Nat} {L : Nat → List Int} {w0 w w' : World} {T : Nat → Tri}
theorem CI.cell (h : CI B n M L w0 w T) {x : Nat} (hx : x < n) : w.cell? ⟨M, x, none⟩ = some (T x).enc ∧ w.frozen? ⟨M, x, none⟩ = false := by
  constructor
  · simp only [World.cell?, h.blk]
    simpa using encs_at (T := T) hx
  · simp [World.frozen?, h.blk]
/-- One more is put behind one of them, and the slice is stored. -/
theorem CI.app (h : CI B n M L w0 w T) {x : Nat} (hx : x < n) {z : Int} {lit : Obj} {v' : Value} (ho : Lst.OwnI B w' v' (L x ++ [z])) (hg : (w.alloc lit).grownBy w' (T x).enc.ownBlock) (hat : v'.ownBlock = (T x).enc.ownBlock ∨ v'.ownBlock = some (w.alloc lit).heap.size) :
    ∃ t : Tri, v' = t.enc ∧ (w'.cell? ⟨M, x, none⟩ = some (T x).enc ∧ w'.frozen? ⟨M, x, none⟩ = false) ∧ CI B n M (fun i => if i = x then L x ++ [z] else L i) w0 (w'.setCell ⟨M, x, none⟩ v') (upT T x t) := by
  have hb : Below w.heap.size w (w.alloc lit) := (Below.refl _ _).alloc (Nat.le_refl _) _
  have hMl := heap_lt h.blk
  have hMx : (T x).enc.ownBlock ≠ some M := own_ne (h.own x hx) h.blk (by decide)
  have hblk : ∀ g, g < w.heap.size → (T x).enc.ownBlock ≠ some g → w'.heap[g]? = w.heap[g]? := fun g hg1 hn => (hg.block g (Nat.lt_of_lt_of_le hg1 hb.size) (fun e => hn e.symm)).trans (hb.block g hg1)
  have hM := (hblk M hMl hMx).trans h.blk
  have hsz : w.heap.size ≤ w'.heap.size := Nat.le_trans hb.size hg.size
  obtain ⟨t, rfl⟩ : ∃ t : Tri, v' = t.enc := by
    rcases ho.form with ⟨_, hv⟩ | ⟨g, cap, hv, _⟩
    · exact ⟨⟨none, 0, 0⟩, hv⟩
    · exact ⟨⟨_, _, cap⟩, hv⟩
  have hbl : Below B w0 w' := ⟨hg.os.trans (hb.os.trans h.below.os), hg.tape.trans (hb.tape.trans h.below.tape), hg.output.trans (hb.output.trans h.below.output), Nat.le_trans h.below.size hsz, fun g hg1 => (hblk g (Nat.lt_of_lt_of_le hg1 h.size) (fun e => by have := Lst.own_base (h.own x hx) g e; omega)).trans (h.below.block g hg1)⟩
  refine ⟨t, rfl, ⟨by simp only [World.cell?, hM]; simpa using encs_at (T := T) hx, by simp [World.frozen?, hM]⟩, ?_⟩
  have hown' : ∀ i, i < n → i ≠ x → Lst.OwnI B w' (T i).enc (L i) := fun i hi hix => ownI_same (h.own i hi) fun g hg1 => hblk g (World.ownsRow.lt (h.own i hi) g hg1).2 (fun e => h.apart x i hx hi (Ne.symm hix) g e hg1)
  have hset : ∀ (v : Value) (zs : List Int), Lst.OwnI B w' v zs → Lst.OwnI B (w'.setCell ⟨M, x, none⟩ t.enc) v zs := fun v zs hv => ownI_same hv fun g hg1 => Below.heap_setCell _ _ _ _ (fun e => own_ne hv hM (by decide) (by rw [hg1, e]))
  refine ⟨hbl.setCell (p := ⟨M, x, none⟩) h.ge _, h.ge, by have := h.size; simp [World.setCell]; omega, ?_, fun i hi => ?_, fun i j hi hj hij g hg1 hg2 => ?_⟩
  · rw [← encs_put hx]
    simp only [World.setCell, Array.getElem?_modify, if_true, hM, Option.map_some]
    rfl
  · by_cases e : i = x
    · subst e
      rw [if_pos rfl]
      unfold upT
      rw [if_pos rfl]
      exact hset _ _ ho
    · rw [if_neg e]
      unfold upT
      rw [if_neg e]
      exact hset _ _ (hown' i hi e)
  · have key : ∀ i, i < n → i ≠ x → ∀ g, t.enc.ownBlock = some g → (T i).enc.ownBlock ≠ some g := fun i hi hix g h1 h2 => by
      rcases hat with h3 | h3
      · exact h.apart x i hx hi (Ne.symm hix) g (h3 ▸ h1) h2
      · rw [h1] at h3
        have h3 := Option.some.inj h3
        have := (World.ownsRow.lt (h.own i hi) g h2).2
        have := hb.size
        omega
    unfold upT at hg1 hg2
    by_cases e1 : i = x
    · by_cases e2 : j = x
      · exact hij (e1.trans e2.symm)
      · rw [if_pos e1] at hg1
        rw [if_neg e2] at hg2
        exact key j hj e2 g hg1 hg2
    · rw [if_neg e1] at hg1
      by_cases e2 : j = x
      · rw [if_pos e2] at hg2
        exact key i hi e1 g hg2 hg1
      · rw [if_neg e2] at hg2
        exact h.apart i j hi hj hij g hg1 hg2
/-- At first all are empty. -/
theorem CI.start {lit : Obj} (hw : w0.heap.size = B) (hm : M = B) (hl : lit = .cells (madeCells #[.slice none 0 0] n) 32) : CI B n M (fun _ => []) w0 (w0.alloc lit) (fun _ => ⟨none, 0, 0⟩) := by
  subst hw hm hl
  refine ⟨(Below.refl _ _).alloc (Nat.le_refl _) _, Nat.le_refl _, by simp, ?_, fun i _ => Lst.OwnI.nil _ _, fun i j _ _ _ g hg => (by cases hg)⟩
  rw [← encs_nil]
  exact heap_alloc_at _ _ _ rfl
end
/-- What a call that tells a new list of lists leaves. -/
def OwnLL (B : Nat) (w : World) (v : Value) (ls : List (List Int)) : Prop := ∃ (g c : Nat) (ts : List Tri) (cur : Array Value), v = .slice (some ⟨g, 0, none⟩) ls.length c ∧ B ≤ g ∧ w.heap[g]? = some (.cells cur 32) ∧ ts.length = ls.length ∧ (∀ i, i < ts.length → cur[i]? = some (ts.getD i default).enc) ∧ ∀ i, i < ts.length → Lst.OwnI B w (ts.getD i default).enc (ls.getD i [])
def ListsNew (ls : List (List Int)) (w : World) (e : Ending) (w' : World) : Prop := ∃ v, e = .returned v ∧ OwnLL w.heap.size w' v ls ∧ Below w.heap.size w w'
end Go.Proofs.YtimgdkafennohaaGreatDoor.Sc
namespace Go.Proofs.YtimgdkafennohaaGreatDoor.Sc
open Go.ChangeShapes Go.WideShapes Go.ChangeAt Go.RowKit Base F Bits Gr Go.Sort
variable {n : Nat} {w : World}
theorem tri_one : OneCell Tri.enc := fun _ => rfl
def emptyT (t : Tri) : Bool := t.n == 0
set_option maxRecDepth 100000 in
theorem empty_gives (t : Tri) (W : World) : FnGives Tryz.prog 34 #[] #[t.enc] (.bool (emptyT t)) W := by
  unfold FnGives Tri.enc emptyT
  obtain ⟨p, m, c⟩ := t
  show Calls _ _ #[.slice p m c] W _
  have E : Hid (((m : Int) == 0) = (m == 0)) := Lib.hid (by rw [Bool.eq_iff_iff, beq_iff_eq, beq_iff_eq]; omega)
  go_enter Tryz.func34, Tryz.ntmps34
  go_wp2
  go_ret
  exact ⟨ret_bool E.out, 0, rfl⟩
theorem heap_row {w : World} {q g : Nat} {cur : Array Value} {T : TypeId} (d : Array Tri) (h : w.heap[g]? = some (.cells cur T)) : (putRow Tri.enc (Sort.ahead w q) g 0 d).heap[g]? = some (.cells (putCells Tri.enc 0 d cur) T) ∧ (∀ k, k ≠ g → (putRow Tri.enc (Sort.ahead w q) g 0 d).heap[k]? = w.heap[k]?) ∧ (putRow Tri.enc (Sort.ahead w q) g 0 d).heap.size = w.heap.size := by
  unfold putRow mapBlock Sort.ahead
  refine ⟨?_, fun k hk => ?_, ?_⟩
  · simp [Array.getElem?_modify, h, onCells]
  · simp [Array.getElem?_modify, Ne.symm hk]
  · simp
theorem own_n {B : Nat} {w : World} {t : Tri} {zs : List Int} (h : Lst.OwnI B w t.enc zs) : t.n = zs.length := by
  rcases h.form with ⟨h1, hv⟩ | ⟨g, cap, hv, _⟩
  · unfold Tri.enc at hv
    injection hv with _ h2 _
    rw [h1]; exact h2
  · unfold Tri.enc at hv
    injection hv
/-- Those that are not empty are left. -/
theorem CI.cut {B M : Nat} {lab : Nat → Nat} {w0 w w' : World} {T : Nat → Tri} (h : CI B n M (fun i => natI (memR n lab i)) w0 w T) (hl : LabOk n lab) {q : Nat} (hw : w' = putRow Tri.enc (Sort.ahead w q) M 0 (((((List.range n).map T).filter fun x => !emptyT x) ++ List.replicate (((List.range n).map T).toArray.size - (((List.range n).map T).filter fun x => !emptyT x).length) (⟨none, 0, 0⟩ : Tri)).toArray)) :
    OwnLL B w' (.slice (some ⟨M, 0, none⟩) (((List.range n).map T).filter fun x => !emptyT x).length n) ((partsR n lab).map natI) ∧ Below B w0 w' := by
  obtain ⟨I, hI⟩ : ∃ I, I = (List.range n).filter fun i => !((memR n lab i).length == 0) := ⟨_, rfl⟩
  have hIn : ∀ i ∈ I, i < n := fun i hi => by rw [hI, List.mem_filter, List.mem_range] at hi; exact hi.1
  have hts : (((List.range n).map T).filter fun x => !emptyT x) = I.map T := by
    rw [List.filter_map, hI]
    congr 1
    refine List.filter_congr fun i hi => ?_
    rw [List.mem_range] at hi
    have := own_n (h.own i hi)
    rw [natI_len] at this
    simp only [Function.comp, emptyT, this]
  have hls : (partsR n lab).map natI = I.map (fun i => natI (memR n lab i)) := by
    rw [← parts_eq hl, List.filter_map, List.map_map, hI]
    rfl
  have hlen : (I.map T).length ≤ n := by
    rw [List.length_map, hI]
    exact Nat.le_trans (List.length_filter_le _ _) (by simp)
  rw [hts] at hw ⊢
  rw [hls]
  obtain ⟨r1, r2, r3⟩ := heap_row (q := q) ((I.map T ++ List.replicate (((List.range n).map T).toArray.size - (I.map T).length) (⟨none, 0, 0⟩ : Tri)).toArray) h.blk
  rw [← hw] at r1 r2 r3
  have hM : ∀ i, i < n → ∀ g, (T i).enc.ownBlock = some g → g ≠ M := fun i hi g hg e => own_ne (h.own i hi) h.blk (by decide) (by rw [hg, e])
  refine ⟨⟨M, n, I.map T, _, by rw [List.length_map, List.length_map], h.ge, r1, by rw [List.length_map, List.length_map], fun i hi => ?_, fun i hi => ?_⟩, ?_⟩
  · rw [List.length_map] at hi hlen
    have hin : i < n := by omega
    unfold putCells
    rw [Array.getElem?_mapIdx]
    have hsz : i < (encs n T).size := by simp [encs]; exact hin
    rw [Array.getElem?_eq_getElem hsz, Option.map_some, if_pos ⟨Nat.zero_le _, by simp; omega⟩]
    congr 2
    simp [hi, List.getD_eq_getElem?_getD]
    rw [List.getElem?_append_left (by simpa using hi)]
    simp [hi]
  · rw [List.length_map] at hi
    have e1 : (I.map T).getD i default = T I[i] := by simp [List.getD_eq_getElem?_getD, hi]
    have e2 : (I.map fun i => natI (memR n lab i)).getD i [] = natI (memR n lab I[i]) := by simp [List.getD_eq_getElem?_getD, hi]
    have hin := hIn _ (List.getElem_mem hi)
    rw [e1, e2]
    exact ownI_same (h.own _ hin) fun g hg => r2 g (hM _ hin g hg)
  · have hb : Below B w w' := ⟨by rw [hw]; rfl, by rw [hw]; rfl, by rw [hw]; rfl, by rw [r3]; exact Nat.le_refl _, fun g hg => r2 g (fun e => by have := h.ge; omega)⟩
    exact h.below.trans hb
theorem own_low {B B' : Nat} {w : World} {v : Value} {zs : List Int} (h : Lst.OwnI B w v zs) (hb : B' ≤ B) : Lst.OwnI B' w v zs := by
  refine ⟨h.1, ?_⟩
  rcases h.2 with h | ⟨g, cap, cur, h1, h2, h3⟩
  · exact .inl h
  · exact .inr ⟨g, cap, cur, h1, Nat.le_trans hb h2, h3⟩
set_option maxRecDepth 100000 in
set_option maxHeartbeats 4000000 in
theorem comps_gen {pv : Option Addr} {l : List Arc} (hn : n ≤ 4096) (mask : Int) (hl : LabOk n (labR l)) (hlab : Calls Tryz.prog 12 #[.pointer pv, .int .i64 mask] w (NumN w (labI n l))) :
    Calls Tryz.prog 15 #[.pointer pv, .int .i64 mask] w (ListsNew ((partsR n (labR l)).map natI) w) := by
  have HL := Lib.hid hlab
  have hmk : ∀ wx, (Instr.makeSlice 36 (.int .i64 (n : Int)) (.int .i64 (n : Int))).run Tryz.prog wx = .ok (.slice (some ⟨wx.heap.size, 0, none⟩) n n) (wx.alloc (.cells (madeCells #[.slice none 0 0] n) 32)) := fun wx =>
    run_make_row' (P := Tryz.prog) 36 32 (.slice none 0 0) 24 Tryz.underlying36 (by kernel_rfl) rfl .i64 .i64 n (by omega) (by omega) wx
  have hni : (n : Int) ≤ 4096 := by omega
  have HOK := Lib.hid hl
  obtain ⟨lab, hlb⟩ : ∃ lab, lab = labR l := ⟨_, rfl⟩
  unfold labI at HL
  rw [← hlb] at HOK HL ⊢
  clear hlab hl hlb hn
  go_enter Tryz.func15, Tryz.ntmps15
  go_wp2_with fail
  refine HL.out.mono ?_
  rintro e w1 ⟨lv, rfl, hown, hb1⟩
  have hll : (natI ((List.range n).map lab)).length = n := by simp [natI]
  obtain ⟨p, c, hlv, _, hcells⟩ := (hown.ints (by rw [hll]; omega)).open_
  rw [hll] at hlv hcells
  subst hlv
  obtain ⟨B, hB⟩ : ∃ B, B = w1.heap.size := ⟨_, rfl⟩
  have HV : Hid (∀ j, j < n → ∃ g o', p = some ⟨g, o', none⟩ ∧ ∀ W, Below B w1 W → W.cell? ⟨g, o' + j, none⟩ = some (.int .i64 ((lab j : Nat) : Int))) := Lib.hid fun j hj => by
    obtain ⟨g, o', hp, _, hg, hc⟩ := hcells j hj
    refine ⟨g, o', hp, fun W hW => ?_⟩
    rw [hB] at hW
    refine (hW.cell (p := ⟨g, o' + j, none⟩) hg).trans ?_
    rw [hc]
    simp [natI, List.getD_eq_getElem?_getD, hj]
  have HB1 := Lib.hid hb1
  have H0 : Hid (∃ T, CI B n B (fun i => natI (memR 0 lab i)) w1 (w1.alloc (.cells (madeCells #[.slice none 0 0] n) 32)) T) := Lib.hid ⟨_, CI.start hB.symm rfl rfl⟩
  clear hown hcells hb1 HL hll
  go_wp2_with fail
  rw [← hB]
  have HBE := Lib.hid hB
  clear hB
  go_loopw [17] (fun s17 wr => ∃ j : Nat, s17 = .int .i64 (j : Int) ∧ j ≤ n ∧ Hid (∃ T, CI B n B (fun i => natI (memR j lab i)) w1 wr T)) (fun s17 _ => n - (intOf s17).toNat)
  case atStart => exact ⟨0, rfl, Nat.zero_le _, H0⟩
  case round =>
    clear H0
    obtain ⟨j, rfl, hj, HJ⟩ := hrel
    obtain ⟨T, hci⟩ := HJ.out
    have HCI := Lib.hid hci
    clear HJ
    by_cases hlt : j < n
    · obtain ⟨g, o', rfl, hc⟩ := HV.out j hlt
      have hx := hc _ hci.below
      have hle := HOK.out.le j hlt
      obtain ⟨x, hxe⟩ : ∃ x, x = lab j := ⟨_, rfl⟩
      rw [← hxe] at hx hle
      have hxn : x < n := by omega
      have hxi : (x : Int) < (n : Int) := by omega
      obtain ⟨d1, d2⟩ := hci.cell hxn
      have HSTEP : Hid ((fun i => if i = x then natI (memR j lab x) ++ [(j : Int)] else natI (memR j lab i)) = fun i => natI (memR (j + 1) lab i)) := Lib.hid (by
        funext i
        rw [memR_snoc]
        by_cases e : i = x
        · rw [if_pos e, if_pos (by rw [← hxe, e]), e]; simp [natI]
        · rw [if_neg e, if_neg (by rw [← hxe]; exact fun h => e h.symm)])
      have HLEN : Hid ((natI (memR j lab x)).length ≤ 5000) := Lib.hid (by
        rw [natI_len]
        unfold memR
        exact Nat.le_trans (List.length_filter_le _ _) (by simp; omega))
      have hsz := hci.size
      clear hc hxe hle hci
      unfold Tri.enc at d1
      go_wp2_with (at_builtin; refine Lst.append_ints rfl (.tmp 27) (.tmp 29) rfl (B := B) (zs := natI (memR j lab x)) (ys := [(j : Int)]) (Nat.le_trans hsz (by simp)) ((HCI.out.own x hxn).lay rfl _) rfl (Lst.int_lit (j : Int) _) (fun n c e => by cases e) rfl (by have := HLEN.out; simp; omega) ?_; intro v2 w3 ho hg2 hat; obtain ⟨t, rfl, ⟨k1, k2⟩, hn2⟩ := HCI.out.app hxn ho hg2 hat; unfold Tri.enc at k1 hn2 ⊢; have HN2 := Lib.hid hn2; clear ho hg2 hat hn2)
      rw [HSTEP.out] at HN2
      clear HCI HSTEP
      go_wp2_with fail
      go_roundw
      case rel => exact ⟨j + 1, by go_num, by omega, Lib.hid ⟨_, HN2.out⟩⟩
      case measure => simp [intOf]; omega
    · have e : j = n := by omega
      subst e
      have hd : (((List.range j).map T).toArray).size = j := by simp
      have HDEL : Hid (Calls Tryz.prog 33 #[.slice (some ⟨B, 0, none⟩) j j, .func (.func 34) #[] #[]] wr fun e w' => ∃ v, e = .returned v ∧ OwnLL B w' v ((partsR j lab).map natI) ∧ Below B w1 w') := Lib.hid (by
        have h := Tryz.slices_DeleteFunc Tri.enc tri_one emptyT 34 #[] (fun _ _ => rfl) ⟨none, 0, 0⟩ (fun w => rfl) B 0 j ((List.range j).map T).toArray wr (fun W t _ => empty_gives t W) (fun _ _ _ t _ => empty_gives t _) (fun i hi => by
          have hij : i < j := by simpa using hi
          obtain ⟨k1, k2⟩ := hci.cell hij
          refine ⟨?_, by rw [Nat.zero_add]; exact k2⟩
          rw [Nat.zero_add, k1]
          congr 2
          simp [hij]) (by rw [hd]; omega) (by rw [hd]; exact Nat.le_refl _)
        rw [hd] at h
        refine h.mono ?_
        rintro e w' ⟨rfl, q, hq⟩
        have := hci.cut (q := q) (w' := w') HOK.out (by rw [hq]; simp)
        exact ⟨_, rfl, this.1, this.2⟩)
      have HBW : Hid (∀ w', Below B w1 w' → Below w.heap.size w w') := Lib.hid fun w' h => hbt HB1.out (by rw [← HBE.out]; exact h)
      have HLE : Hid (w.heap.size ≤ B) := Lib.hid (by rw [HBE.out]; exact HB1.out.size)
      clear hci HCI HV hd
      go_wp2_with fail
      refine HDEL.out.mono ?_
      rintro e w5 ⟨v, rfl, h1, h2⟩
      have H5 := Lib.hid (And.intro h1 h2)
      clear h1 h2 HDEL
      go_wp2_with fail
      go_ret
      obtain ⟨⟨g, c2, ts, cur, k1, k2, k3, k4, k5, k6⟩, k7⟩ := H5.out
      exact ⟨_, rfl, ⟨g, c2, ts, cur, k1, Nat.le_trans HLE.out k2, k3, k4, k5, fun i hi => own_low (k6 i hi) HLE.out⟩, HBW.out _ k7⟩
end Go.Proofs.YtimgdkafennohaaGreatDoor.Sc
namespace Go.Proofs.YtimgdkafennohaaGreatDoor.Sc
open Go.ChangeShapes Go.WideShapes Go.ChangeAt Go.RowKit Base F Bits Gr Rf
variable {n : Nat} {w : World}
theorem keysL_up (l : List Int) : (Rf.keysL l).Pairwise (· ≤ ·) := (Rf.keysL_rises l).imp fun h => by omega
set_option maxRecDepth 100000 in
theorem self_any {B b : Nat} {q : List Arc} {nbs : Bool → Nat} (h : GQ w B b n q nbs) (hn : n ≤ 4096) (mask : Int) (v : Nat) : Calls Tryz.prog 30 #[.pointer (some ⟨b, 0, none⟩), .int .i64 mask, .int .i64 (v : Nat)] w (HeldP (.bool (decide (v ∈ nxA (ofA q mask) v))) w) := by
  have HN := Lib.hid (next_q h hn mask (v : Int))
  have hb : decide (v ∈ nxA (ofA q mask) v) = (sideO (ofA q mask) (v : Int) false).contains (v : Int) := by
    have e0 := (ofA_ends h.1 mask).1
    rw [Bool.eq_iff_iff, decide_eq_true_eq, List.contains_iff_mem, mem_nxA e0]
    exact mem_next.symm
  have hup : (sideO (ofA q mask) (v : Int) false).Pairwise (· ≤ ·) := by
    unfold sideO
    exact keysL_up _
  have hlen : (sideO (ofA q mask) (v : Int) false).length ≤ 1000 := by
    have h1 := sideO_len (ofA q mask) (v : Int) false
    have h2 := ofA_len q mask
    obtain ⟨_, Vs, hs⟩ := h
    have h3 := hs.good.2.1
    rw [List.length_map] at h3
    omega
  rw [hb]
  clear hb
  generalize sideO (ofA q mask) (v : Int) false = zs at HN hup hlen ⊢
  obtain ⟨r, hr⟩ : ∃ r, r = zs.contains (v : Int) := ⟨_, rfl⟩
  rw [← hr]
  have HR := Lib.hid hr
  clear hr
  have HUP := Lib.hid hup
  clear h hup
  go_enter Tryz.func30, Tryz.ntmps30
  go_wp2_with fail
  refine HN.out.mono ?_
  rintro e w1 ⟨lv, rfl, hown, hb1⟩
  have HB1 := Lib.hid hb1
  have HBS : Hid (∃ m, Calls Tryz.prog 48 #[lv, .int .i64 (v : Int)] w1 fun e w' => e = .returned (.tuple #[.int .i64 m, .bool r]) ∧ ∃ q, w' = w1.drewN q) := Lib.hid (by
    rcases hown.form with ⟨hz, hv⟩ | ⟨g, cap, hv, _⟩
    · subst hz hv
      refine ⟨0, (Tryz.slices_BinarySearch_int_empty none 0 (v : Int) w1).mono ?_⟩
      rintro e w' ⟨rfl, rfl⟩
      refine ⟨?_, 0, rfl⟩
      rw [HR.out]
      rfl
    · subst hv
      have hint := hown.ints (by omega)
      have hcell : ∀ j, j < zs.length → w1.cell? ⟨g, 0 + j, none⟩ = some (.int .i64 (zs.getD j 0)) := fun j hj => by
        rcases hint with ⟨⟨_, _, h0⟩, h1⟩ | ⟨g', o'', c', h1, _, _, _, h2⟩
        · rw [h1] at hj; simp at hj
        · injection h1 with h1 _ _
          injection h1 with h1
          injection h1 with h1 h3
          subst h1 h3
          exact h2 j hj
      have h := Tryz.slices_BinarySearch_int g 0 zs.length cap zs (v : Int) w1 (Nat.le_refl _) (by omega) hcell (by rw [List.take_length]; exact HUP.out)
      rw [List.take_length, ← HR.out] at h
      exact ⟨_, h⟩)
  obtain ⟨m, hbs⟩ := HBS.out
  have HS := Lib.hid hbs
  clear hbs HBS hown hb1 HN
  go_wp2_with fail
  refine HS.out.mono ?_
  rintro e w2 ⟨rfl, q, rfl⟩
  have HB2 := Lib.hid (below_drewN HB1.out q)
  clear HS
  go_wp2_with fail
  go_ret
  exact ⟨rfl, HB2.out⟩
/-- A component of one node that doesn't go to itself. -/
def loneB (l : List Arc) (m : List Nat) : Bool := decide (m.length = 1) && !decide (m.headD 0 ∈ nxA l (m.headD 0))
theorem lone_iff (l : List Arc) (m : List Nat) : loneB l m = true ↔ Lone l m := by
  unfold loneB Lone
  rw [Bool.and_eq_true, decide_eq_true_eq, Bool.not_eq_true', decide_eq_false_iff_not]
  constructor
  · rintro ⟨h1, h2⟩
    rcases m with _ | ⟨a, _ | ⟨b, m⟩⟩
    · simp at h1
    · exact ⟨a, rfl, h2⟩
    · simp at h1
  · rintro ⟨v, rfl, h⟩
    exact ⟨rfl, h⟩
/-- Those of the components that go round, of the first i. -/
def rounds (l : List Arc) (ps : List (List Nat)) : List Nat := (ps.filter fun m => !loneB l m).flatten
theorem rounds_snoc (l : List Arc) (ps : List (List Nat)) (m : List Nat) : rounds l (ps ++ [m]) = if loneB l m = true then rounds l ps else rounds l ps ++ m := by
  unfold rounds
  rw [List.filter_append, List.flatten_append]
  by_cases h : loneB l m = true
  · rw [if_pos h]; simp [h]
  · rw [if_neg h]
    have : loneB l m = false := by simpa using h
    simp [this]
theorem mem_rounds {l : List Arc} (h0 : ∀ x ∈ l, 0 ≤ x.to) (hn : ∀ x ∈ l, x.to < (n : Int)) (i : Nat) : i ∈ rounds l (partsR n (labR l)) ↔ i ∈ roundR l n := by
  rw [round_parts h0 hn]
  unfold rounds
  rw [List.mem_flatten]
  constructor
  · rintro ⟨m, hm, hi⟩
    rw [List.mem_filter, Bool.not_eq_true'] at hm
    exact ⟨m, hm.1, (fun hh => by rw [(lone_iff l m).2 hh] at hm; cases hm.2), hi⟩
  · rintro ⟨m, hm, hh, hi⟩
    refine ⟨m, List.mem_filter.2 ⟨hm, ?_⟩, hi⟩
    rw [Bool.not_eq_true']
    cases e : loneB l m
    · rfl
    · exact absurd ((lone_iff l m).1 e) hh
theorem row_rounds {l : List Arc} {V : Nat} (hV : ∀ y, V.testBit y = decide (y ∈ roundR l n)) : rowInts n V = natI (roundR l n) := by
  have : placesTo V n = roundR l n := by
    unfold placesTo
    conv => rhs; unfold roundR
    refine List.filter_congr fun i hi => ?_
    rw [hV]
    have hi2 := List.mem_range.1 hi
    rw [decide_eq_decide]
    unfold roundR
    rw [List.mem_filter, List.mem_range, decide_eq_true_eq]
    exact ⟨fun h => h.2, fun h => ⟨hi2, h⟩⟩
  unfold rowInts natI
  rw [this]
theorem set_mem {V y : Nat} {D : List Nat} (hV : ∀ z, V.testBit z = decide (z ∈ D)) (hy : y < n) (z : Nat) : (setV n V (y : Int) true).testBit z = decide (z ∈ D ++ [y]) := by
  unfold setV
  by_cases h : y ∈ D
  · rw [if_neg (fun hh => hh.2.2 (by rw [Int.toNat_natCast, hV, decide_eq_true h])), hV, decide_eq_decide]
    simp only [List.mem_append, List.mem_singleton]
    exact ⟨.inl, fun hh => hh.elim id (fun e => e ▸ h)⟩
  · rw [if_pos ⟨by omega, by omega, by rw [Int.toNat_natCast, hV, decide_eq_false h]; decide⟩, Int.toNat_natCast, testBit_flip, hV]
    by_cases e : z = y
    · rw [if_pos e, e, decide_eq_false h]; simp
    · rw [if_neg e, decide_eq_decide]
      simp [e]
end Go.Proofs.YtimgdkafennohaaGreatDoor.Sc
namespace Go.Proofs.YtimgdkafennohaaGreatDoor.Sc
open Go.ChangeShapes Go.WideShapes Go.ChangeAt Go.RowKit Base F Bits Gr Rf
theorem own_down {B B' : Nat} {w : World} {v : Value} {zs : List Int} (h : Lst.OwnI B w v zs) (hb : B' ≤ B) : Lst.OwnI B' w v zs := by
  refine ⟨h.1, ?_⟩
  rcases h.2 with h | ⟨g, cap, cur, h1, h2, h3⟩
  · exact .inl h
  · exact .inr ⟨g, cap, cur, h1, Nat.le_trans hb h2, h3⟩
theorem runsA_succ (l : List Arc) : ∀ (k : Nat) (out : List Int), runsA l (k + 1) out = passA l (runsA l k out)
  | 0, _ => rfl
  | k + 1, out => by
    show runsA l (k + 1) (passA l out) = _
    rw [runsA_succ l k]
    rfl
theorem putF_len (x : Int) : ∀ l : List Int, (putF x l).length ≤ l.length + 1
  | [] => by simp [putF]
  | y :: l => by
    unfold putF
    split
    · rw [List.length_cons]
      have := List.length_filter_le (fun z => z != x) (y :: l)
      simp at this ⊢
      omega
    · rw [List.length_cons, List.length_cons]
      have := putF_len x l
      omega
theorem stepA_len (out : List Int) (x : Arc) : (stepA out x).length ≤ out.length + 1 := by
  unfold stepA
  split
  · exact putF_len _ _
  · omega
theorem fold_len : ∀ (m : List Arc) (out : List Int), (m.foldl stepA out).length ≤ out.length + m.length
  | [], out => by simp
  | x :: m, out => by
    have h1 := stepA_len out x
    have h2 := fold_len m (stepA out x)
    rw [List.foldl_cons, List.length_cons]
    omega
theorem runs_len (l : List Arc) (out : List Int) : ∀ k, (runsA l k out).length ≤ out.length + k * l.length
  | 0 => by simp [runsA]
  | k + 1 => by
    rw [runsA_succ]
    have h1 := fold_len l (runsA l k out)
    have h2 := runs_len l out k
    unfold passA
    rw [Nat.succ_mul]
    omega
/-- Where the document's search is: i passes are done, and k arcs of the next. -/
def outR (l : List Arc) (s : Int) (i k : Nat) : List Int := (l.take k).foldl stepA (runsA l i (sideO l s false))
theorem outR_step {l : List Arc} {s : Int} {i k : Nat} {x : Arc} (h : l.take (k + 1) = l.take k ++ [x]) : outR l s i (k + 1) = stepA (outR l s i k) x := by
  unfold outR
  rw [h, List.foldl_append]
  rfl
theorem outR_pass (l : List Arc) (s : Int) (i : Nat) : outR l s i l.length = outR l s (i + 1) 0 := by
  unfold outR
  rw [List.take_length, runsA_succ]
  rfl
theorem outR_len (l : List Arc) (s : Int) (i k : Nat) (hl : l.length ≤ 60) (hi : i ≤ 61) : (outR l s i k).length ≤ 5000 := by
  unfold outR
  have h1 := fold_len (l.take k) (runsA l i (sideO l s false))
  have h2 := runs_len l (sideO l s false) i
  have h3 := sideO_len l s false
  have h4 : i * l.length ≤ 61 * 60 := Nat.mul_le_mul hi hl
  have h5 : (l.take k).length ≤ l.length := by rw [List.length_take]; omega
  omega
/-- What the search carries. -/
def RE (w : World) (v : Value) (zs : List Int) (wr : World) : Prop := Lst.Ints w.heap.size wr v zs ∧ Below w.heap.size w wr ∧ Lst.OwnI w.heap.size wr v zs
theorem RE.below {w wr w' : World} {v : Value} {zs : List Int} (h : RE w v zs wr) (hb : Below wr.heap.size wr w') : RE w v zs w' := ⟨h.1.below hb, h.2.1.trans (hb.mono h.2.1.size), h.2.2.below hb⟩
theorem own_ints' {B : Nat} {w : World} {v : Value} {zs : List Int} (h : Lst.OwnI B w v zs) (hl : zs.length ≤ 100000) : Lst.Ints B w v zs := by
  rcases h.ints (by omega) with h1 | ⟨g, o, c, h1, _, h3, h4, h5⟩
  · exact .inl h1
  · exact .inr ⟨g, o, c, h1, Lst.own_base h g (by rw [h1]; rfl), h3, h4, h5⟩
theorem RE.new {w wr w' : World} {v : Value} {zs : List Int} (hb : Below w.heap.size w wr) (ho : Lst.OwnI wr.heap.size w' v zs) (hb2 : Below wr.heap.size wr w') (hl : zs.length ≤ 100000) : RE w v zs w' :=
  have h := own_down ho hb.size
  ⟨own_ints' h hl, hbt hb hb2, h⟩
set_option maxRecDepth 100000 in
set_option maxHeartbeats 8000000 in
theorem reach_any {v : Value} {l : List Arc} (s : Int) (w : World) (h : Arcs 0 w v l) (hl : l.length ≤ 60) : Calls Tryz.prog 21 #[v, .int .i64 s] w (NumN w (reachR l s)) := by
  have HNX := Lib.hid (gnext_fwd s w h (by omega))
  obtain ⟨p, c, rfl, _, hc⟩ := h.open_
  obtain ⟨M, hM⟩ : ∃ M, M = l.length := ⟨_, rfl⟩
  have hMi : (M : Int) ≤ 60 := by omega
  rw [← hM] at HNX ⊢
  have HC : Hid (∀ k, k < M → ∃ g o, p = some ⟨g, o, none⟩ ∧ ∃ x : Arc, l.take (k + 1) = l.take k ++ [x] ∧ g < w.heap.size ∧ (w.cell? ⟨g, o + k * 4, none⟩ = some (.int .i64 x.fr) ∧ w.cell? ⟨g, o + k * 4 + 1, none⟩ = some (.int .i64 x.to) ∧ w.cell? ⟨g, o + k * 4 + 2, none⟩ = some (.int .i64 x.kd) ∧ w.cell? ⟨g, o + k * 4 + 3, none⟩ = some (.int .i64 x.lb))) := Lib.hid fun k hk => by
    have hk2 : k < l.length := by omega
    obtain ⟨g, o, h1, _, h2, h3, h4, h5, h6⟩ := hc k hk2
    exact ⟨g, o, h1, _, by rw [List.take_succ_eq_append_getElem hk2]; simp [List.getD_eq_getElem?_getD, hk2], h2, h3, h4, h5, h6⟩
  have HLN : Hid (∀ i k, i ≤ M + 1 → (outR l s i k).length ≤ 5000) := Lib.hid fun i k hi => outR_len l s i k hl (by omega)
  have HPS : Hid (∀ i, outR l s i M = outR l s (i + 1) 0) := Lib.hid fun i => by rw [hM]; exact outR_pass l s i
  have HRS : Hid (outR l s (M + 1) 0 = reachR l s) := Lib.hid (by rw [hM]; rfl)
  have H00 : Hid (outR l s 0 0 = sideO l s false) := Lib.hid rfl
  rw [← H00.out] at HNX
  rw [← HRS.out]
  clear hc hM hl h
  go_enter Tryz.func21, Tryz.ntmps21
  go_wp2_with fail
  refine HNX.out.mono ?_
  rintro e w1 ⟨v0, rfl, ho, hb⟩
  have H0 := Lib.hid (RE.new (Below.refl _ _) ho hb (by have := HLN.out 0 0 (by omega); omega))
  clear ho hb HNX
  go_wp2_with fail
  go_loopw [5, 6] (fun s5 s6 wr => ∃ (i : Nat) (u : Value), s6 = .int .i64 (i : Int) ∧ u = s5 ∧ i ≤ M + 1 ∧ Hid (RE w u (outR l s i 0) wr)) (fun _ s6 _ => M + 1 - (intOf s6).toNat)
  case atStart => exact ⟨0, _, rfl, rfl, Nat.zero_le _, H0⟩
  case round =>
    clear H0
    obtain ⟨i, u, rfl, rfl, hi, HR⟩ := hrel
    by_cases hiM : i ≤ M
    · have hii : (i : Int) ≤ (M : Int) := by omega
      go_wp2_with fail
      go_loopw [5, 20] (fun s5 s20 wr => ∃ (k : Nat) (u : Value), s20 = .int .i64 (k : Int) ∧ u = s5 ∧ k ≤ M ∧ Hid (RE w u (outR l s i k) wr)) (fun _ s20 _ => M - (intOf s20).toNat)
      case atStart => exact ⟨0, _, rfl, rfl, Nat.zero_le _, HR⟩
      case round =>
        clear HR
        obtain ⟨k, u, rfl, rfl, hk, HR⟩ := hrel
        by_cases hlt : k < M
        · obtain ⟨g, o, rfl, x, htk, hg, c0, c1, c2, c3⟩ := HC.out k hlt
          have hkI : (k : Int) < (M : Int) := by omega
          have hbw := HR.out.2.1
          have c0 := (hbw.cell (p := ⟨g, _, none⟩) hg).trans c0
          have c1 := (hbw.cell (p := ⟨g, _, none⟩) hg).trans c1
          have c2 := (hbw.cell (p := ⟨g, _, none⟩) hg).trans c2
          have c3 := (hbw.cell (p := ⟨g, _, none⟩) hg).trans c3
          have hST := Lib.hid (outR_step (s := s) (i := i) htk)
          obtain ⟨X, hX⟩ : ∃ X, X = wr.alloc (bxA x) := ⟨_, rfl⟩
          obtain ⟨gb, hgb⟩ : ∃ gb, gb = wr.heap.size := ⟨_, rfl⟩
          have hbX : Below wr.heap.size wr X := by rw [hX]; exact (Below.refl _ _).alloc (Nat.le_refl _) _
          have HXB : Hid (X.heap[gb]? = some (bxA x)) := Lib.hid (by rw [hX, hgb]; exact heap_alloc_at _ _ _ rfl)
          have HRX := Lib.hid (HR.out.below hbX)
          have hln := HLN.out i k (by omega)
          have HIN := Lib.hid (fun z : Int => in_any z X HRX.out.1)
          have HPUT := Lib.hid (fun z : Int => rPut_any z X HRX.out.1 (by omega))
          have hln2 := HLN.out i (k + 1) (by omega)
          obtain ⟨x0, x1, x2, x3⟩ := x
          obtain ⟨zs, hzs⟩ : ∃ zs, zs = outR l s i k := ⟨_, rfl⟩
          rw [← hzs] at HIN HPUT hST HRX hln
          unfold bxA at hX
          simp only at c0 c1 c2 c3 hX
          clear hbX hbw htk hzs HR
          go_upto_region 8 with fail
          rw [← hX, ← hgb]
          clear hX hgb c0 c1 c2 c3 hg
          obtain ⟨d0, d1, d2, d3⟩ := cellsA HXB.out
          have hbl := heap_lt HXB.out
          have HI0 := Lib.hid (HIN.out x0)
          have HI1 := Lib.hid (HIN.out x1)
          by_cases h1 : x0 ∈ zs
          · rw [decide_eq_true h1] at HI0
            by_cases h2 : x1 ∈ zs
            · rw [decide_eq_true h2] at HI1
              have HN : Hid (RE w u (outR l s i (k + 1)) X) := Lib.hid (by rw [hST.out]; unfold stepA; rw [if_neg (fun hh => hh.2 h2)]; exact HRX.out)
              clear h1 h2 HIN HPUT
              go_wp2_with fail
              refine HI0.out.mono ?_
              rintro e w3 ⟨rfl, rfl⟩
              go_wp2_with fail
              refine HI1.out.mono ?_
              rintro e w3 ⟨rfl, rfl⟩
              go_wp2_with fail
              go_roundw
              case rel => exact ⟨k + 1, u, by go_num, rfl, by omega, HN⟩
              case measure => simp [intOf]; omega
            · rw [decide_eq_false h2] at HI1
              have HP1 := Lib.hid (HPUT.out x1)
              have HST : Hid (outR l s i (k + 1) = putF x1 zs) := Lib.hid (by rw [hST.out]; unfold stepA; rw [if_pos ⟨h1, h2⟩])
              rw [HST.out] at hln2
              clear h1 h2 HIN HPUT
              go_wp2_with fail
              refine HI0.out.mono ?_
              rintro e w3 ⟨rfl, rfl⟩
              go_wp2_with fail
              refine HI1.out.mono ?_
              rintro e w3 ⟨rfl, rfl⟩
              go_wp2_with fail
              refine HP1.out.mono ?_
              rintro e w4 ⟨u2, rfl, ho, hb⟩
              have HN : Hid (RE w u2 (outR l s i (k + 1)) w4) := Lib.hid (by rw [HST.out]; exact RE.new HRX.out.2.1 ho hb (by omega))
              clear ho hb HP1
              go_wp2_with fail
              go_roundw
              case rel => exact ⟨k + 1, u2, by go_num, rfl, by omega, HN⟩
              case measure => simp [intOf]; omega
          · rw [decide_eq_false h1] at HI0
            have HN : Hid (RE w u (outR l s i (k + 1)) X) := Lib.hid (by rw [hST.out]; unfold stepA; rw [if_neg (fun hh => h1 hh.1)]; exact HRX.out)
            clear h1 HIN HPUT
            go_wp2_with fail
            refine HI0.out.mono ?_
            rintro e w3 ⟨rfl, rfl⟩
            go_wp2_with fail
            go_roundw
            case rel => exact ⟨k + 1, u, by go_num, rfl, by omega, HN⟩
            case measure => simp [intOf]; omega
        · have hke : k = M := by omega
          subst hke
          have HN : Hid (RE w u (outR l s (i + 1) 0) wr) := Lib.hid (by rw [← HPS.out]; exact HR.out)
          clear HR HC
          go_wp2_with fail
          go_roundw
          case rel => exact ⟨i + 1, u, by go_num, rfl, by omega, HN⟩
          case measure => simp [intOf]; omega
    · have e : i = M + 1 := by omega
      subst e
      clear HC
      go_wp2
      go_ret
      exact ⟨u, rfl, HR.out.2.2, HR.out.2.1⟩
end Go.Proofs.YtimgdkafennohaaGreatDoor.Sc
namespace Go.Proofs.YtimgdkafennohaaGreatDoor.Sc
open Go.ChangeShapes Go.WideShapes Go.ChangeAt Go.RowKit Base F Bits Gr Rf
theorem sl_info : (Tryz.prog.info? 32).map (fun i => (i.zero, i.size, i.bytes)) = some (some (.slice none 0 0), 1, 24) := by kernel_rfl
/-- A slice is put behind a slice of slices of the call's own. -/
theorem append_sl {ops : Array Oper} {rest : List Oper} {o : Oper} {a : Act} {Q : Exit → Act → World → Prop} (hgd : o.guard = none) (s x : Operand)
    (ho : o.op = .call { callee := .builtin .append, args := #[s, x], argTypes := #[36, 36] }) {B g : Nat} {w : World} {v u : Value} {vs : List Value} {p : Option Addr} {n c : Nat}
    (hB : B ≤ w.heap.size) (hown : w.ownsRow B 32 1 v vs.length vs) (hs : a.eval s = v) (hy : w.heap[g]? = some (.cells #[.slice p n c] 32)) (hu : u = .slice (some ⟨g, 0, none⟩) 1 1) (hx : a.eval x = u) (hl : vs.length ≤ 100000)
    (h : ∀ v' w', w'.ownsRow B 32 1 v' (vs ++ [Value.slice p n c]).length (vs ++ [Value.slice p n c]) → w.grownBy w' v.ownBlock → wpList Tryz.prog ops Q rest (a.put o.dst v') w') :
    wpList Tryz.prog ops Q (o :: rest) a w := by
  refine wpList_plain hgd fun K hK => ?_
  obtain ⟨i0, hi, hz0, hz1, hz2⟩ := info_parts sl_info
  subst hu
  obtain ⟨v', w', hr, h2, h3, _, h5⟩ := run_append_own_at (P := Tryz.prog) w B 36 o.type 32 i0 (.slice none 0 0) 1 24 Tryz.underlying36 hi hz0 hz1 hz2 rfl (by decide) v vs.length vs hown ⟨g, 0, none⟩ 1 1 [.slice p n c] (by simp) (by
    intro t y hy2
    match t, hy2 with
    | 0, hy2 =>
      simp at hy2
      subst hy2
      simp [Addr.add, World.cell?, hy]) (by
    intro y hy2
    simp at hy2
    subst hy2
    rfl) (by simp only [maxLen]; omega) (by omega) hB
  unfold Oper.wp execOp
  simp only [ho, resolve, invoke, builtin, Sem.run_bind, Sem.run_pure, Result.andThen_ok, List.map_toArray, List.map_cons, List.map_nil, hs, hx, hr]
  refine hK _ _ (h v' w' ?_ h3)
  rw [List.length_append]
  exact h2
/-- Lists told one by one, and the slice that holds them. -/
structure AL (B : Nat) (w0 w : World) (v : Value) (vs : List Value) (ls : List (List Int)) : Prop where
  own : w.ownsRow B 32 1 v vs.length vs
  below : Below B w0 w
  size : B ≤ w.heap.size
  len : vs.length = ls.length
  each : ∀ i, i < ls.length → Lst.OwnI B w (vs.getD i undef) (ls.getD i [])
section
variable {B : Nat} {w0 w w' : World} {v : Value} {vs : List Value} {ls : List (List Int)}
theorem AL.below_ (h : AL B w0 w v vs ls) (hb : Below w.heap.size w w') : AL B w0 w' v vs ls := by
  refine ⟨⟨h.own.1, ?_⟩, h.below.trans (hb.mono h.size), Nat.le_trans h.size hb.size, h.len, fun i hi => (h.each i hi).below hb⟩
  rcases h.own.2 with hn | ⟨g, cap, cur, h1, h2, h3, h4⟩
  · exact .inl hn
  · exact .inr ⟨g, cap, cur, h1, h2, (hb.block g (heap_lt h3)).trans h3, h4⟩
theorem AL.app (h : AL B w0 w v vs ls) {v' u : Value} {z : List Int} {lit : Obj} (hz : Lst.OwnI B w u z) (ho : w'.ownsRow B 32 1 v' (vs ++ [u]).length (vs ++ [u])) (hg : (w.alloc lit).grownBy w' v.ownBlock) : AL B w0 w' v' (vs ++ [u]) (ls ++ [z]) := by
  have hb : Below w.heap.size w (w.alloc lit) := (Below.refl _ _).alloc (Nat.le_refl _) _
  have hblk : ∀ g, g < w.heap.size → v.ownBlock ≠ some g → w'.heap[g]? = w.heap[g]? := fun g hg1 hn => (hg.block g (Nat.lt_of_lt_of_le hg1 hb.size) (fun e => hn e.symm)).trans (hb.block g hg1)
  have hsz : w.heap.size ≤ w'.heap.size := Nat.le_trans hb.size hg.size
  have keep : ∀ (u : Value) (zs : List Int), Lst.OwnI B w u zs → Lst.OwnI B w' u zs := fun u zs hu => ownI_same hu fun g hg1 => by
    have hlt := World.ownsRow.lt hu g hg1
    refine hblk g hlt.2 fun e => ?_
    rcases hu.2 with ⟨hv, _⟩ | ⟨g', cap, cur, hv, _, h3, _⟩
    · rw [hv] at hg1; cases hg1
    · rw [hv] at hg1
      have e2 : g' = g := Option.some.inj hg1
      subst e2
      exact own_ne h.own h3 (by decide) e
  refine ⟨ho, ⟨hg.os.trans (hb.os.trans h.below.os), hg.tape.trans (hb.tape.trans h.below.tape), hg.output.trans (hb.output.trans h.below.output), Nat.le_trans h.below.size hsz, fun g hg1 => (hblk g (Nat.lt_of_lt_of_le hg1 h.size) (fun e => by have := (World.ownsRow.lt h.own g e).1; omega)).trans (h.below.block g hg1)⟩, Nat.le_trans h.size hsz, by rw [List.length_append, List.length_append, h.len]; rfl, fun i hi => ?_⟩
  by_cases e : i < ls.length
  · have e1 : (vs ++ [u]).getD i undef = vs.getD i undef := by
      rw [List.getD_eq_getElem?_getD, List.getD_eq_getElem?_getD, List.getElem?_append_left (by rw [h.len]; exact e)]
    have e2 : (ls ++ [z]).getD i [] = ls.getD i [] := by
      rw [List.getD_eq_getElem?_getD, List.getD_eq_getElem?_getD, List.getElem?_append_left e]
    rw [e1, e2]
    exact keep _ _ (h.each i e)
  · have hie : i = ls.length := by rw [List.length_append] at hi; simp at hi; omega
    subst hie
    have e1 : (vs ++ [u]).getD ls.length undef = u := by
      rw [List.getD_eq_getElem?_getD, ← h.len]
      simp
    have e2 : (ls ++ [z]).getD ls.length [] = z := by
      rw [List.getD_eq_getElem?_getD]
      simp
    rw [e1, e2]
    exact keep _ _ hz
theorem AL.start (w : World) : AL w.heap.size w w (.slice none 0 0) [] [] := ⟨World.ownsRow_nil _ _ _ _, Below.refl _ _, Nat.le_refl _, rfl, fun _ hi => absurd hi (Nat.not_lt_zero _)⟩
/-- One of the lists, to be read in any later world. -/
theorem AL.get (h : AL B w0 w v vs ls) {i : Nat} (hi : i < ls.length) (hl : (ls.getD i []).length ≤ 100000) : ∃ g c p n c', v = .slice (some ⟨g, 0, none⟩) ls.length c ∧ ∀ W, Below w.heap.size w W → W.cell? ⟨g, i, none⟩ = some (.slice p n c') ∧ Lst.Ints 0 W (.slice p n c') (ls.getD i []) := by
  have ho := h.each i hi
  rcases h.own.2 with ⟨_, h0⟩ | ⟨g, cap, cur, hv, _, hg, _, _, _, htk⟩
  · rw [h.len] at h0; omega
  · rw [h.len] at hv
    have hc : cur[i]? = some (vs.getD i undef) := by
      have : (cur.toList.take (vs.length * 1))[i]? = vs[i]? := by rw [htk]
      rw [List.getElem?_take, if_pos (by rw [h.len]; omega), Array.getElem?_toList] at this
      rw [this, List.getD_eq_getElem?_getD]
      rw [List.getElem?_eq_getElem (by rw [h.len]; exact hi)]
      rfl
    obtain ⟨p, n, c', hu⟩ : ∃ p n c', vs.getD i undef = .slice p n c' := by
      rcases ho.form with ⟨_, hv⟩ | ⟨g, cap, hv, _⟩
      · exact ⟨_, _, _, hv⟩
      · exact ⟨_, _, _, hv⟩
    rw [hu] at hc ho
    refine ⟨g, cap, p, n, c', hv, fun W hW => ⟨?_, (ho.ints (by omega)).below hW⟩⟩
    refine (hW.cell (p := ⟨g, i, none⟩) (heap_lt hg)).trans ?_
    simp only [World.cell?, hg]
    exact hc
end
end Go.Proofs.YtimgdkafennohaaGreatDoor.Sc
