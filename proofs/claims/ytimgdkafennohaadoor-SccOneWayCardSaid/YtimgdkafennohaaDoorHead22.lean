/-
  Contracts of small functions, several texts laid into one. Not a statement of the seat.
-/
import Derived.Test.YtimgdkafennohaaDoorHead10
import Derived.Test.YtimgdkafennohaaDoorHead21
import Derived.Test.YtimgdkafennohaaDoorSc6
import Derived.Test.YtimgdkafennohaaDoorRowList
namespace Go.Proofs.YtimgdkafennohaaDoor.Sc
open Go.ChangeShapes Go.WideShapes Go.ChangeAt Go.RowKit Base F Bits
/-- A slice's header. -/
structure Tri where
  p : Option Addr
  n : Nat
  c : Nat
  deriving Inhabited
def Tri.enc (t : Tri) : Value := .slice t.p t.n t.c
def encs (n : Nat) (T : Nat → Tri) : Array Value := ((List.range n).map fun i => (T i).enc).toArray
theorem encs_at {n : Nat} {T : Nat → Tri} {i : Nat} (h : i < n) : (encs n T)[i]? = some (T i).enc := by
  unfold encs
  simp [h]
def upT (T : Nat → Tri) (x : Nat) (t : Tri) : Nat → Tri := fun i => if i = x then t else T i
theorem encs_put {n : Nat} {T : Nat → Tri} {i : Nat} {t : Tri} (h : i < n) : (encs n T).setIfInBounds i t.enc = encs n (upT T i t) := by
  apply Array.ext_getElem?
  intro k
  rw [Array.getElem?_setIfInBounds]
  unfold encs upT
  by_cases e : i = k
  · subst e
    simp [h]
  · by_cases hk : k < n
    · simp [hk, e, Ne.symm e]
    · simp [hk, e]
theorem encs_nil (n : Nat) : madeCells #[.slice none 0 0] n = encs n (fun _ => ⟨none, 0, 0⟩) := by
  unfold madeCells encs Tri.enc
  apply Array.ext_getElem?
  intro k
  simp
  by_cases h : k < n
  · simp [h, Nat.mod_one]
  · simp [h]
/-- Members on their way: a block of n slices of the call's own, each of which lies apart from the others. -/
structure CI (B n : Nat) (M : Nat) (L : Nat → List Int) (w0 w : World) (T : Nat → Tri) : Prop where
  below : Below B w0 w
  ge : B ≤ M
  size : B ≤ w.heap.size
  blk : w.heap[M]? = some (.cells (encs n T) 28)
  own : ∀ i, i < n → Lst.OwnI B w (T i).enc (L i)
  apart : ∀ i j, i < n → j < n → i ≠ j → ∀ g, (T i).enc.ownBlock = some g → (T j).enc.ownBlock ≠ some g
section
variable {B n M : Nat} {L : Nat → List Int} {w0 w w' : World} {T : Nat → Tri}
theorem CI.cell (h : CI B n M L w0 w T) {x : Nat} (hx : x < n) : w.cell? ⟨M, x, none⟩ = some (T x).enc ∧ w.frozen? ⟨M, x, none⟩ = false := by
  constructor
  · simp only [World.cell?, h.blk]
    simpa using encs_at (T := T) hx
  · simp [World.frozen?, h.blk]
/-- One more is put behind one of them, and the slice is stored. -/
theorem CI.app (h : CI B n M L w0 w T) {x : Nat} (hx : x < n) {z : Int} {lit : Obj} {v' : Value} (ho : Lst.OwnI B w' v' (L x ++ [z])) (hg : (w.alloc lit).grownBy w' (T x).enc.ownBlock) (hat : v'.ownBlock = (T x).enc.ownBlock ∨ v'.ownBlock = some (w.alloc lit).heap.size) :
    ∃ t : Tri, v' = t.enc ∧ (w'.cell? ⟨M, x, none⟩ = some (T x).enc ∧ w'.frozen? ⟨M, x, none⟩ = false) ∧ CI B n M (fun i => if i = x then L x ++ [z] else L i) w0 (w'.setCell ⟨M, x, none⟩ v') (upT T x t) := by
  have hb : Below w.heap.size w (w.alloc lit) := (Below.refl _ _).alloc (Nat.le_refl _) _
  have hMl := heap_lt h.blk
  have hMx : (T x).enc.ownBlock ≠ some M := own_ne (h.own x hx) h.blk (by decide)
  have hblk : ∀ g, g < w.heap.size → (T x).enc.ownBlock ≠ some g → w'.heap[g]? = w.heap[g]? := fun g hg1 hn => (hg.block g (Nat.lt_of_lt_of_le hg1 hb.size) (fun e => hn e.symm)).trans (hb.block g hg1)
  have hM := (hblk M hMl hMx).trans h.blk
  have hsz : w.heap.size ≤ w'.heap.size := Nat.le_trans hb.size hg.size
  obtain ⟨t, rfl⟩ : ∃ t : Tri, v' = t.enc := by
    rcases ho.form with ⟨_, hv⟩ | ⟨g, cap, hv, _⟩
    · exact ⟨⟨none, 0, 0⟩, hv⟩
    · exact ⟨⟨_, _, cap⟩, hv⟩
  have hbl : Below B w0 w' := ⟨hg.os.trans (hb.os.trans h.below.os), hg.tape.trans (hb.tape.trans h.below.tape), hg.output.trans (hb.output.trans h.below.output), Nat.le_trans h.below.size hsz, fun g hg1 => (hblk g (Nat.lt_of_lt_of_le hg1 h.size) (fun e => by have := Lst.own_base (h.own x hx) g e; omega)).trans (h.below.block g hg1)⟩
  refine ⟨t, rfl, ⟨by simp only [World.cell?, hM]; simpa using encs_at (T := T) hx, by simp [World.frozen?, hM]⟩, ?_⟩
  have hown' : ∀ i, i < n → i ≠ x → Lst.OwnI B w' (T i).enc (L i) := fun i hi hix => ownI_same (h.own i hi) fun g hg1 => hblk g (World.ownsRow.lt (h.own i hi) g hg1).2 (fun e => h.apart x i hx hi (Ne.symm hix) g e hg1)
  have hset : ∀ (v : Value) (zs : List Int), Lst.OwnI B w' v zs → Lst.OwnI B (w'.setCell ⟨M, x, none⟩ t.enc) v zs := fun v zs hv => ownI_same hv fun g hg1 => Below.heap_setCell _ _ _ _ (fun e => own_ne hv hM (by decide) (by rw [hg1, e]))
  refine ⟨hbl.setCell (p := ⟨M, x, none⟩) h.ge _, h.ge, by have := h.size; simp [World.setCell]; omega, ?_, fun i hi => ?_, fun i j hi hj hij g hg1 hg2 => ?_⟩
  · rw [← encs_put hx]
    simp only [World.setCell, Array.getElem?_modify, if_true, hM, Option.map_some]
    rfl
  · by_cases e : i = x
    · subst e
      rw [if_pos rfl]
      unfold upT
      rw [if_pos rfl]
      exact hset _ _ ho
    · rw [if_neg e]
      unfold upT
      rw [if_neg e]
      exact hset _ _ (hown' i hi e)
  · have key : ∀ i, i < n → i ≠ x → ∀ g, t.enc.ownBlock = some g → (T i).enc.ownBlock ≠ some g := fun i hi hix g h1 h2 => by
      rcases hat with h3 | h3
      · exact h.apart x i hx hi (Ne.symm hix) g (h3 ▸ h1) h2
      · rw [h1] at h3
        have h3 := Option.some.inj h3
        have := (World.ownsRow.lt (h.own i hi) g h2).2
        have := hb.size
        omega
    unfold upT at hg1 hg2
    by_cases e1 : i = x
    · by_cases e2 : j = x
      · exact hij (e1.trans e2.symm)
      · rw [if_pos e1] at hg1
        rw [if_neg e2] at hg2
        exact key j hj e2 g hg1 hg2
    · rw [if_neg e1] at hg1
      by_cases e2 : j = x
      · rw [if_pos e2] at hg2
        exact key i hi e1 g hg2 hg1
      · rw [if_neg e2] at hg2
        exact h.apart i j hi hj hij g hg1 hg2
/-- At first all are empty. -/
theorem CI.start {lit : Obj} (hw : w0.heap.size = B) (hm : M = B) (hl : lit = .cells (madeCells #[.slice none 0 0] n) 28) : CI B n M (fun _ => []) w0 (w0.alloc lit) (fun _ => ⟨none, 0, 0⟩) := by
  subst hw hm hl
  refine ⟨(Below.refl _ _).alloc (Nat.le_refl _) _, Nat.le_refl _, by simp, ?_, fun i _ => Lst.OwnI.nil _ _, fun i j _ _ _ g hg => (by cases hg)⟩
  rw [← encs_nil]
  exact heap_alloc_at _ _ _ rfl
end
/-- What a call that tells a new list of lists leaves. -/
def OwnLL (B : Nat) (w : World) (v : Value) (ls : List (List Int)) : Prop := ∃ (g c : Nat) (ts : List Tri) (cur : Array Value), v = .slice (some ⟨g, 0, none⟩) ls.length c ∧ B ≤ g ∧ w.heap[g]? = some (.cells cur 28) ∧ ts.length = ls.length ∧ (∀ i, i < ts.length → cur[i]? = some (ts.getD i default).enc) ∧ ∀ i, i < ts.length → Lst.OwnI B w (ts.getD i default).enc (ls.getD i [])
def ListsNew (ls : List (List Int)) (w : World) (e : Ending) (w' : World) : Prop := ∃ v, e = .returned v ∧ OwnLL w.heap.size w' v ls ∧ Below w.heap.size w w'
end Go.Proofs.YtimgdkafennohaaDoor.Sc
namespace Go.Proofs.YtimgdkafennohaaDoor.Sc
open Go.ChangeShapes Go.WideShapes Go.ChangeAt Go.RowKit Base F Bits Gr Go.Sort
variable {n : Nat} {w : World}
theorem tri_one : OneCell Tri.enc := fun _ => rfl
def emptyT (t : Tri) : Bool := t.n == 0
set_option maxRecDepth 100000 in
theorem empty_gives (t : Tri) (W : World) : FnGives Tryd.prog 28 #[] #[t.enc] (.bool (emptyT t)) W := by
  unfold FnGives Tri.enc emptyT
  obtain ⟨p, m, c⟩ := t
  show Calls _ _ #[.slice p m c] W _
  have E : Hid (((m : Int) == 0) = (m == 0)) := Lib.hid (by rw [Bool.eq_iff_iff, beq_iff_eq, beq_iff_eq]; omega)
  go_enter Tryd.func28, Tryd.ntmps28
  go_wp2
  go_ret
  exact ⟨ret_bool E.out, 0, rfl⟩
theorem heap_row {w : World} {q g : Nat} {cur : Array Value} {T : TypeId} (d : Array Tri) (h : w.heap[g]? = some (.cells cur T)) : (putRow Tri.enc (Sort.ahead w q) g 0 d).heap[g]? = some (.cells (putCells Tri.enc 0 d cur) T) ∧ (∀ k, k ≠ g → (putRow Tri.enc (Sort.ahead w q) g 0 d).heap[k]? = w.heap[k]?) ∧ (putRow Tri.enc (Sort.ahead w q) g 0 d).heap.size = w.heap.size := by
  unfold putRow mapBlock Sort.ahead
  refine ⟨?_, fun k hk => ?_, ?_⟩
  · simp [Array.getElem?_modify, h, onCells]
  · simp [Array.getElem?_modify, Ne.symm hk]
  · simp
theorem own_n {B : Nat} {w : World} {t : Tri} {zs : List Int} (h : Lst.OwnI B w t.enc zs) : t.n = zs.length := by
  rcases h.form with ⟨h1, hv⟩ | ⟨g, cap, hv, _⟩
  · unfold Tri.enc at hv
    injection hv with _ h2 _
    rw [h1]; exact h2
  · unfold Tri.enc at hv
    injection hv
/-- Those that are not empty are left. -/
theorem CI.cut {B M : Nat} {lab : Nat → Nat} {w0 w w' : World} {T : Nat → Tri} (h : CI B n M (fun i => natI (memR n lab i)) w0 w T) (hl : LabOk n lab) {q : Nat} (hw : w' = putRow Tri.enc (Sort.ahead w q) M 0 (((((List.range n).map T).filter fun x => !emptyT x) ++ List.replicate (((List.range n).map T).toArray.size - (((List.range n).map T).filter fun x => !emptyT x).length) (⟨none, 0, 0⟩ : Tri)).toArray)) :
    OwnLL B w' (.slice (some ⟨M, 0, none⟩) (((List.range n).map T).filter fun x => !emptyT x).length n) ((partsR n lab).map natI) ∧ Below B w0 w' := by
  obtain ⟨I, hI⟩ : ∃ I, I = (List.range n).filter fun i => !((memR n lab i).length == 0) := ⟨_, rfl⟩
  have hIn : ∀ i ∈ I, i < n := fun i hi => by rw [hI, List.mem_filter, List.mem_range] at hi; exact hi.1
  have hts : (((List.range n).map T).filter fun x => !emptyT x) = I.map T := by
    rw [List.filter_map, hI]
    congr 1
    refine List.filter_congr fun i hi => ?_
    rw [List.mem_range] at hi
    have := own_n (h.own i hi)
    rw [natI_len] at this
    simp only [Function.comp, emptyT, this]
  have hls : (partsR n lab).map natI = I.map (fun i => natI (memR n lab i)) := by
    rw [← parts_eq hl, List.filter_map, List.map_map, hI]
    rfl
  have hlen : (I.map T).length ≤ n := by
    rw [List.length_map, hI]
    exact Nat.le_trans (List.length_filter_le _ _) (by simp)
  rw [hts] at hw ⊢
  rw [hls]
  obtain ⟨r1, r2, r3⟩ := heap_row (q := q) ((I.map T ++ List.replicate (((List.range n).map T).toArray.size - (I.map T).length) (⟨none, 0, 0⟩ : Tri)).toArray) h.blk
  rw [← hw] at r1 r2 r3
  have hM : ∀ i, i < n → ∀ g, (T i).enc.ownBlock = some g → g ≠ M := fun i hi g hg e => own_ne (h.own i hi) h.blk (by decide) (by rw [hg, e])
  refine ⟨⟨M, n, I.map T, _, by rw [List.length_map, List.length_map], h.ge, r1, by rw [List.length_map, List.length_map], fun i hi => ?_, fun i hi => ?_⟩, ?_⟩
  · rw [List.length_map] at hi hlen
    have hin : i < n := by omega
    unfold putCells
    rw [Array.getElem?_mapIdx]
    have hsz : i < (encs n T).size := by simp [encs]; exact hin
    rw [Array.getElem?_eq_getElem hsz, Option.map_some, if_pos ⟨Nat.zero_le _, by simp; omega⟩]
    congr 2
    simp [hi, List.getD_eq_getElem?_getD]
    rw [List.getElem?_append_left (by simpa using hi)]
    simp [hi]
  · rw [List.length_map] at hi
    have e1 : (I.map T).getD i default = T I[i] := by simp [List.getD_eq_getElem?_getD, hi]
    have e2 : (I.map fun i => natI (memR n lab i)).getD i [] = natI (memR n lab I[i]) := by simp [List.getD_eq_getElem?_getD, hi]
    have hin := hIn _ (List.getElem_mem hi)
    rw [e1, e2]
    exact ownI_same (h.own _ hin) fun g hg => r2 g (hM _ hin g hg)
  · have hb : Below B w w' := ⟨by rw [hw]; rfl, by rw [hw]; rfl, by rw [hw]; rfl, by rw [r3]; exact Nat.le_refl _, fun g hg => r2 g (fun e => by have := h.ge; omega)⟩
    exact h.below.trans hb
theorem own_low {B B' : Nat} {w : World} {v : Value} {zs : List Int} (h : Lst.OwnI B w v zs) (hb : B' ≤ B) : Lst.OwnI B' w v zs := by
  refine ⟨h.1, ?_⟩
  rcases h.2 with h | ⟨g, cap, cur, h1, h2, h3⟩
  · exact .inl h
  · exact .inr ⟨g, cap, cur, h1, Nat.le_trans hb h2, h3⟩
set_option maxRecDepth 100000 in
set_option maxHeartbeats 4000000 in
theorem comps_gen {pv : Option Addr} {l : List Arc} (hn : n ≤ 4096) (mask : Int) (hl : LabOk n (labR l)) (hlab : Calls Tryd.prog 6 #[.pointer pv, .int .i64 mask] w (NumN w (labI n l))) :
    Calls Tryd.prog 11 #[.pointer pv, .int .i64 mask] w (ListsNew ((partsR n (labR l)).map natI) w) := by
  have HL := Lib.hid hlab
  have hmk : ∀ wx, (Instr.makeSlice 36 (.int .i64 (n : Int)) (.int .i64 (n : Int))).run Tryd.prog wx = .ok (.slice (some ⟨wx.heap.size, 0, none⟩) n n) (wx.alloc (.cells (madeCells #[.slice none 0 0] n) 28)) := fun wx =>
    run_make_row' (P := Tryd.prog) 36 28 (.slice none 0 0) 24 Tryd.underlying36 (by kernel_rfl) rfl .i64 .i64 n (by omega) (by omega) wx
  have hni : (n : Int) ≤ 4096 := by omega
  have HOK := Lib.hid hl
  obtain ⟨lab, hlb⟩ : ∃ lab, lab = labR l := ⟨_, rfl⟩
  unfold labI at HL
  rw [← hlb] at HOK HL ⊢
  clear hlab hl hlb hn
  go_enter Tryd.func11, Tryd.ntmps11
  go_wp2_with fail
  refine HL.out.mono ?_
  rintro e w1 ⟨lv, rfl, hown, hb1⟩
  have hll : (natI ((List.range n).map lab)).length = n := by simp [natI]
  obtain ⟨p, c, hlv, _, hcells⟩ := (hown.ints (by rw [hll]; omega)).open_
  rw [hll] at hlv hcells
  subst hlv
  obtain ⟨B, hB⟩ : ∃ B, B = w1.heap.size := ⟨_, rfl⟩
  have HV : Hid (∀ j, j < n → ∃ g o', p = some ⟨g, o', none⟩ ∧ ∀ W, Below B w1 W → W.cell? ⟨g, o' + j, none⟩ = some (.int .i64 ((lab j : Nat) : Int))) := Lib.hid fun j hj => by
    obtain ⟨g, o', hp, _, hg, hc⟩ := hcells j hj
    refine ⟨g, o', hp, fun W hW => ?_⟩
    rw [hB] at hW
    refine (hW.cell (p := ⟨g, o' + j, none⟩) hg).trans ?_
    rw [hc]
    simp [natI, List.getD_eq_getElem?_getD, hj]
  have HB1 := Lib.hid hb1
  have H0 : Hid (∃ T, CI B n B (fun i => natI (memR 0 lab i)) w1 (w1.alloc (.cells (madeCells #[.slice none 0 0] n) 28)) T) := Lib.hid ⟨_, CI.start hB.symm rfl rfl⟩
  clear hown hcells hb1 HL hll
  go_wp2_with fail
  rw [← hB]
  have HBE := Lib.hid hB
  clear hB
  go_loopw [17] (fun s17 wr => ∃ j : Nat, s17 = .int .i64 (j : Int) ∧ j ≤ n ∧ Hid (∃ T, CI B n B (fun i => natI (memR j lab i)) w1 wr T)) (fun s17 _ => n - (intOf s17).toNat)
  case atStart => exact ⟨0, rfl, Nat.zero_le _, H0⟩
  case round =>
    clear H0
    obtain ⟨j, rfl, hj, HJ⟩ := hrel
    obtain ⟨T, hci⟩ := HJ.out
    have HCI := Lib.hid hci
    clear HJ
    by_cases hlt : j < n
    · obtain ⟨g, o', rfl, hc⟩ := HV.out j hlt
      have hx := hc _ hci.below
      have hle := HOK.out.le j hlt
      obtain ⟨x, hxe⟩ : ∃ x, x = lab j := ⟨_, rfl⟩
      rw [← hxe] at hx hle
      have hxn : x < n := by omega
      have hxi : (x : Int) < (n : Int) := by omega
      obtain ⟨d1, d2⟩ := hci.cell hxn
      have HSTEP : Hid ((fun i => if i = x then natI (memR j lab x) ++ [(j : Int)] else natI (memR j lab i)) = fun i => natI (memR (j + 1) lab i)) := Lib.hid (by
        funext i
        rw [memR_snoc]
        by_cases e : i = x
        · rw [if_pos e, if_pos (by rw [← hxe, e]), e]; simp [natI]
        · rw [if_neg e, if_neg (by rw [← hxe]; exact fun h => e h.symm)])
      have HLEN : Hid ((natI (memR j lab x)).length ≤ 5000) := Lib.hid (by
        rw [natI_len]
        unfold memR
        exact Nat.le_trans (List.length_filter_le _ _) (by simp; omega))
      have hsz := hci.size
      clear hc hxe hle hci
      unfold Tri.enc at d1
      go_wp2_with (at_builtin; refine Lst.append_ints rfl (.tmp 27) (.tmp 29) rfl (B := B) (zs := natI (memR j lab x)) (ys := [(j : Int)]) (Nat.le_trans hsz (by simp)) ((HCI.out.own x hxn).lay rfl _) rfl (Lst.int_lit (j : Int) _) (fun n c e => by cases e) rfl (by have := HLEN.out; simp; omega) ?_; intro v2 w3 ho hg2 hat; obtain ⟨t, rfl, ⟨k1, k2⟩, hn2⟩ := HCI.out.app hxn ho hg2 hat; unfold Tri.enc at k1 hn2 ⊢; have HN2 := Lib.hid hn2; clear ho hg2 hat hn2)
      rw [HSTEP.out] at HN2
      clear HCI HSTEP
      go_wp2_with fail
      go_roundw
      case rel => exact ⟨j + 1, by go_num, by omega, Lib.hid ⟨_, HN2.out⟩⟩
      case measure => simp [intOf]; omega
    · have e : j = n := by omega
      subst e
      have hd : (((List.range j).map T).toArray).size = j := by simp
      have HDEL : Hid (Calls Tryd.prog 27 #[.slice (some ⟨B, 0, none⟩) j j, .func (.func 28) #[] #[]] wr fun e w' => ∃ v, e = .returned v ∧ OwnLL B w' v ((partsR j lab).map natI) ∧ Below B w1 w') := Lib.hid (by
        have h := Tryd.slices_DeleteFunc Tri.enc tri_one emptyT 28 #[] (fun _ _ => rfl) ⟨none, 0, 0⟩ (fun w => rfl) B 0 j ((List.range j).map T).toArray wr (fun W t _ => empty_gives t W) (fun _ _ _ t _ => empty_gives t _) (fun i hi => by
          have hij : i < j := by simpa using hi
          obtain ⟨k1, k2⟩ := hci.cell hij
          refine ⟨?_, by rw [Nat.zero_add]; exact k2⟩
          rw [Nat.zero_add, k1]
          congr 2
          simp [hij]) (by rw [hd]; omega) (by rw [hd]; exact Nat.le_refl _)
        rw [hd] at h
        refine h.mono ?_
        rintro e w' ⟨rfl, q, hq⟩
        have := hci.cut (q := q) (w' := w') HOK.out (by rw [hq]; simp)
        exact ⟨_, rfl, this.1, this.2⟩)
      have HBW : Hid (∀ w', Below B w1 w' → Below w.heap.size w w') := Lib.hid fun w' h => hbt HB1.out (by rw [← HBE.out]; exact h)
      have HLE : Hid (w.heap.size ≤ B) := Lib.hid (by rw [HBE.out]; exact HB1.out.size)
      clear hci HCI HV hd
      go_wp2_with fail
      refine HDEL.out.mono ?_
      rintro e w5 ⟨v, rfl, h1, h2⟩
      have H5 := Lib.hid (And.intro h1 h2)
      clear h1 h2 HDEL
      go_wp2_with fail
      go_ret
      obtain ⟨⟨g, c2, ts, cur, k1, k2, k3, k4, k5, k6⟩, k7⟩ := H5.out
      exact ⟨_, rfl, ⟨g, c2, ts, cur, k1, Nat.le_trans HLE.out k2, k3, k4, k5, fun i hi => own_low (k6 i hi) HLE.out⟩, HBW.out _ k7⟩
end Go.Proofs.YtimgdkafennohaaDoor.Sc
namespace Go.Proofs.YtimgdkafennohaaDoor.Sc
open Go.ChangeShapes Go.WideShapes Go.ChangeAt Go.RowKit Base F Bits Gr Rf
variable {n : Nat} {w : World}
theorem keysL_up (l : List Int) : (Rf.keysL l).Pairwise (· ≤ ·) := (Rf.keysL_rises l).imp fun h => by omega
set_option maxRecDepth 100000 in
theorem self_any {B b : Nat} {q : List Arc} {nbs : Bool → Nat} (h : GQ w B b n q nbs) (hn : n ≤ 4096) (mask : Int) (v : Nat) : Calls Tryd.prog 30 #[.pointer (some ⟨b, 0, none⟩), .int .i64 mask, .int .i64 (v : Nat)] w (HeldP (.bool (decide (v ∈ nxA (ofA q mask) v))) w) := by
  have HN := Lib.hid (next_q h hn mask (v : Int))
  have hb : decide (v ∈ nxA (ofA q mask) v) = (sideO (ofA q mask) (v : Int) false).contains (v : Int) := by
    have e0 := (ofA_ends h.1 mask).1
    rw [Bool.eq_iff_iff, decide_eq_true_eq, List.contains_iff_mem, mem_nxA e0]
    exact mem_next.symm
  have hup : (sideO (ofA q mask) (v : Int) false).Pairwise (· ≤ ·) := by
    unfold sideO
    exact keysL_up _
  have hlen : (sideO (ofA q mask) (v : Int) false).length ≤ 1000 := by
    have h1 := sideO_len (ofA q mask) (v : Int) false
    have h2 := ofA_len q mask
    obtain ⟨_, Vs, hs⟩ := h
    have h3 := hs.good.2.1
    rw [List.length_map] at h3
    omega
  rw [hb]
  clear hb
  generalize sideO (ofA q mask) (v : Int) false = zs at HN hup hlen ⊢
  obtain ⟨r, hr⟩ : ∃ r, r = zs.contains (v : Int) := ⟨_, rfl⟩
  rw [← hr]
  have HR := Lib.hid hr
  clear hr
  have HUP := Lib.hid hup
  clear h hup
  go_enter Tryd.func30, Tryd.ntmps30
  go_wp2_with fail
  refine HN.out.mono ?_
  rintro e w1 ⟨lv, rfl, hown, hb1⟩
  have HB1 := Lib.hid hb1
  have HBS : Hid (∃ m, Calls Tryd.prog 49 #[lv, .int .i64 (v : Int)] w1 fun e w' => e = .returned (.tuple #[.int .i64 m, .bool r]) ∧ ∃ q, w' = w1.drewN q) := Lib.hid (by
    rcases hown.form with ⟨hz, hv⟩ | ⟨g, cap, hv, _⟩
    · subst hz hv
      refine ⟨0, (Tryd.slices_BinarySearch_int_empty none 0 (v : Int) w1).mono ?_⟩
      rintro e w' ⟨rfl, rfl⟩
      refine ⟨?_, 0, rfl⟩
      rw [HR.out]
      rfl
    · subst hv
      have hint := hown.ints (by omega)
      have hcell : ∀ j, j < zs.length → w1.cell? ⟨g, 0 + j, none⟩ = some (.int .i64 (zs.getD j 0)) := fun j hj => by
        rcases hint with ⟨⟨_, _, h0⟩, h1⟩ | ⟨g', o'', c', h1, _, _, _, h2⟩
        · rw [h1] at hj; simp at hj
        · injection h1 with h1 _ _
          injection h1 with h1
          injection h1 with h1 h3
          subst h1 h3
          exact h2 j hj
      have h := Tryd.slices_BinarySearch_int g 0 zs.length cap zs (v : Int) w1 (Nat.le_refl _) (by omega) hcell (by rw [List.take_length]; exact HUP.out)
      rw [List.take_length, ← HR.out] at h
      exact ⟨_, h⟩)
  obtain ⟨m, hbs⟩ := HBS.out
  have HS := Lib.hid hbs
  clear hbs HBS hown hb1 HN
  go_wp2_with fail
  refine HS.out.mono ?_
  rintro e w2 ⟨rfl, q, rfl⟩
  have HB2 := Lib.hid (below_drewN HB1.out q)
  clear HS
  go_wp2_with fail
  go_ret
  exact ⟨rfl, HB2.out⟩
/-- A component of one node that doesn't go to itself. -/
def loneB (l : List Arc) (m : List Nat) : Bool := decide (m.length = 1) && !decide (m.headD 0 ∈ nxA l (m.headD 0))
theorem lone_iff (l : List Arc) (m : List Nat) : loneB l m = true ↔ Lone l m := by
  unfold loneB Lone
  rw [Bool.and_eq_true, decide_eq_true_eq, Bool.not_eq_true', decide_eq_false_iff_not]
  constructor
  · rintro ⟨h1, h2⟩
    rcases m with _ | ⟨a, _ | ⟨b, m⟩⟩
    · simp at h1
    · exact ⟨a, rfl, h2⟩
    · simp at h1
  · rintro ⟨v, rfl, h⟩
    exact ⟨rfl, h⟩
/-- Those of the components that go round, of the first i. -/
def rounds (l : List Arc) (ps : List (List Nat)) : List Nat := (ps.filter fun m => !loneB l m).flatten
theorem rounds_snoc (l : List Arc) (ps : List (List Nat)) (m : List Nat) : rounds l (ps ++ [m]) = if loneB l m = true then rounds l ps else rounds l ps ++ m := by
  unfold rounds
  rw [List.filter_append, List.flatten_append]
  by_cases h : loneB l m = true
  · rw [if_pos h]; simp [h]
  · rw [if_neg h]
    have : loneB l m = false := by simpa using h
    simp [this]
theorem mem_rounds {l : List Arc} (h0 : ∀ x ∈ l, 0 ≤ x.to) (hn : ∀ x ∈ l, x.to < (n : Int)) (i : Nat) : i ∈ rounds l (partsR n (labR l)) ↔ i ∈ roundR l n := by
  rw [round_parts h0 hn]
  unfold rounds
  rw [List.mem_flatten]
  constructor
  · rintro ⟨m, hm, hi⟩
    rw [List.mem_filter, Bool.not_eq_true'] at hm
    exact ⟨m, hm.1, (fun hh => by rw [(lone_iff l m).2 hh] at hm; cases hm.2), hi⟩
  · rintro ⟨m, hm, hh, hi⟩
    refine ⟨m, List.mem_filter.2 ⟨hm, ?_⟩, hi⟩
    rw [Bool.not_eq_true']
    cases e : loneB l m
    · rfl
    · exact absurd ((lone_iff l m).1 e) hh
theorem row_rounds {l : List Arc} {V : Nat} (hV : ∀ y, V.testBit y = decide (y ∈ roundR l n)) : rowInts n V = natI (roundR l n) := by
  have : placesTo V n = roundR l n := by
    unfold placesTo
    conv => rhs; unfold roundR
    refine List.filter_congr fun i hi => ?_
    rw [hV]
    have hi2 := List.mem_range.1 hi
    rw [decide_eq_decide]
    unfold roundR
    rw [List.mem_filter, List.mem_range, decide_eq_true_eq]
    exact ⟨fun h => h.2, fun h => ⟨hi2, h⟩⟩
  unfold rowInts natI
  rw [this]
theorem set_mem {V y : Nat} {D : List Nat} (hV : ∀ z, V.testBit z = decide (z ∈ D)) (hy : y < n) (z : Nat) : (setV n V (y : Int) true).testBit z = decide (z ∈ D ++ [y]) := by
  unfold setV
  by_cases h : y ∈ D
  · rw [if_neg (fun hh => hh.2.2 (by rw [Int.toNat_natCast, hV, decide_eq_true h])), hV, decide_eq_decide]
    simp only [List.mem_append, List.mem_singleton]
    exact ⟨.inl, fun hh => hh.elim id (fun e => e ▸ h)⟩
  · rw [if_pos ⟨by omega, by omega, by rw [Int.toNat_natCast, hV, decide_eq_false h]; decide⟩, Int.toNat_natCast, testBit_flip, hV]
    by_cases e : z = y
    · rw [if_pos e, e, decide_eq_false h]; simp
    · rw [if_neg e, decide_eq_decide]
      simp [e]
end Go.Proofs.YtimgdkafennohaaDoor.Sc
