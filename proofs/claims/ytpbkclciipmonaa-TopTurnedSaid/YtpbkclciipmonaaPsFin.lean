/-
  Contracts of sequences: Insert, Set, Del, where there is such a place. Not a statement of the seat.
-/
import Derived.Test.YtpbkclciipmonaaPsJoin
import Derived.Test.YtpbkclciipmonaaHead
namespace Go.Proofs.Ytpbkclciipmonaa.F
open Go.ChangeShapes Go.WideShapes Go.ChangeAt Go.RowKit Go.Shelf Base
/-- What done leaves behind an editor's way: the sequence, and the boxes. -/
def SFin (pv : Value) (o : Option Nat) (room : Nat) (zs : List Cel) (P : List Cel → Int → Prop) (Z : Prop) (bs : List (Nat × Obj)) (w : World) (e : Ending) (w' : World) : Prop :=
  ∃ root' why zs' o', e = .returned (.tuple #[.agg #[pv, .int .i64 root'], .int .i64 why]) ∧ Hid (ArV w' pv o' room zs' ∧ Mv o o' w ∧ Fr (VF pv o) w w' ∧ MRes P Z zs zs' root' why ∧ ∀ q ∈ bs, w'.heap[q.1]? = some q.2 ∧ ¬ VF pv o' q.1 ∧ w.heap.size ≤ q.1)
theorem psfing {B : Nat} {a : Option Addr} {o : Option Nat} {root : Int} {room : Nat} {zs : List Cel} {R : List Cel × Int × Int} {P : List Cel → Int → Prop} {Z : Prop} {bs : List (Nat × Obj)} {w w3 : World} {o3 : Option Nat} (hB : w.heap.size ≤ B) (hE : EDS B (.pointer a) root (zs.length : Int) room w o w3 o3 R.1 R.2.1 bs) (hO : (∃ new, R.1 = zs ++ new) ∧ ((R.2.1 = 0 ∧ P R.1 R.2.2) ∨ (R.2.1 = 2 ∧ Z))) :
    Calls Try.prog 48 #[.pointer (some ⟨B, 0, none⟩), .int .i64 R.2.2] w3 (SFin (.pointer a) o room zs P Z bs w) := by
  obtain ⟨hI, hM, hF, hbs, _⟩ := hE
  have hF' : Fr (VF (.pointer a) o) w w3 := (Fr.refl (F := VF (.pointer a) o) w).trans hF (fun g hg k => by
    rcases k with rfl | k
    · omega
    · exact k)
  have hbv : ∀ q ∈ bs, ¬ VF (.pointer a) o3 q.1 := fun q hq k => (hbs q hq).2.1 (.inr k)
  obtain ⟨⟨new, hnew⟩, hR⟩ := hO
  rcases hR with ⟨h0, hP⟩ | ⟨h2, hZ⟩
  · rw [h0] at hI
    refine (psdone_yes R.2.2 hI).mono fun e' w4 ⟨he, hb3⟩ => ?_
    exact ⟨_, _, R.1, o3, he, Lib.hid ⟨hI.2.below hb3, hM, hF'.trans (Fr.of_below (F := fun _ => False) hb3) (fun _ _ k => k.elim), .inl ⟨rfl, hP⟩, fun q hq => ⟨(hb3.block _ (heap_lt (hbs q hq).1)).trans (hbs q hq).1, hbv q hq, (hbs q hq).2.2⟩⟩⟩
  · rw [h2] at hI
    refine (psdone_no (n := zs.length) R.2.2 hI (by rw [hnew]; simp)).mono fun e' w4 ⟨he, o4, h3, h4, h5⟩ => ?_
    rw [show R.1.take zs.length = zs by rw [hnew]; simp] at h3
    exact ⟨_, _, zs, o4, he, Lib.hid ⟨h3, hM.trans h4 hF'.size, hF'.trans h5 (fun g hg k => hM.vf g hg k), .inr ⟨rfl, rfl, rfl, hZ⟩, fun q hq => ⟨(h5.block (heap_lt (hbs q hq).1) (hbv q hq)).trans (hbs q hq).1, fun k => hbv q hq (h4.vf _ (heap_lt (hbs q hq).1) k), (hbs q hq).2.2⟩⟩⟩
theorem psfin {B : Nat} {a : Option Addr} {o : Option Nat} {root : Int} {room : Nat} {zs : List Cel} {R : List Cel × Int × Int} {n : Nat} {T : Tre} {bs : List (Nat × Obj)} {w w3 : World} {o3 : Option Nat} (hB : w.heap.size ≤ B) (hE : EDS B (.pointer a) root (zs.length : Int) room w o w3 o3 R.1 R.2.1 bs) (hO : OutZ room zs n T R) :
    Calls Try.prog 48 #[.pointer (some ⟨B, 0, none⟩), .int .i64 R.2.2] w3 (SFin (.pointer a) o room zs (PutP zs n T) (room < zs.length + n) bs w) := psfing hB hE hO.1.fin
/-- The result's box, stored into at the end. -/
theorem sfin_end {gr : Nat} {a : Option Addr} {o : Option Nat} {room : Nat} {zs : List Cel} {P : List Cel → Int → Prop} {Z : Prop} {bs : List (Nat × Obj)} {w w3 w4 : World} {root' why : Int} {zs' : List Cel} {o' : Option Nat} {ob : Obj}
    (h : ArV w3 (.pointer a) o' room zs' ∧ Mv o o' w ∧ Fr (VF (.pointer a) o) w w3 ∧ MRes P Z zs zs' root' why ∧ ∀ q ∈ bs, w3.heap[q.1]? = some q.2 ∧ ¬ VF (.pointer a) o' q.1 ∧ w.heap.size ≤ q.1) (hgr : (gr, ob) ∈ bs) (hs : Stored w3 gr (boxS (.pointer a) root') w4) :
    MP (.pointer a) o room zs P Z w (.returned (.tuple #[.agg #[.pointer a, .int .i64 root'], .int .i64 why])) w4 := by
  obtain ⟨k1, k2, k3, k4, k5⟩ := h
  have hf : Fr (fun g => g = gr) w3 w4 := ⟨hs.1, hs.2.1, hs.2.2.1, by rw [hs.2.2.2.1]; exact Nat.le_refl _, fun g _ hn => hs.2.2.2.2.2 g hn⟩
  exact ⟨root', why, zs', o', rfl, k1.fr hf (fun g hv e => (k5 _ hgr).2.1 (e ▸ hv)), k2, k3.trans hf (fun g hg e => by have := (k5 _ hgr).2.2; simp only at this; omega), k4⟩
/-- An editor that was just made, and the boxes ahead of it. -/
theorem EDS.begin {B : Nat} {a : Option Addr} {o : Option Nat} {root had : Int} {room : Nat} {zs : List Cel} {w w1 : World} {bs : List (Nat × Obj)} (hA : ArV w (.pointer a) o room zs) (hb : Below w.heap.size w w1) (hI : EDI w1 B (.pointer a) o root had room zs 0) (hbs : ∀ q ∈ bs, w1.heap[q.1]? = some q.2 ∧ w.heap.size ≤ q.1 ∧ q.1 ≠ B) (hp : bs.Pairwise (fun p q => p.1 ≠ q.1)) : EDS B (.pointer a) root had room w o w1 o zs 0 bs :=
  ⟨hI, Mv.refl _ _, Fr.of_below hb, fun q hq => ⟨(hbs q hq).1, fun k => by
    rcases k with k | k
    · exact (hbs q hq).2.2 k
    · have := hA.lt _ k; have := (hbs q hq).2.1; omega, (hbs q hq).2.1⟩, hp⟩
theorem subT_gap : ∀ (t : Tre) (i : Int), subT (2 * i) t = .nil
  | .nil, i => rfl
  | .node l k v r, i => by
    rw [subT]
    split
    · exact subT_gap l i
    · rw [if_pos (by omega), show 2 * i - (2 * (l.size : Int) + 1) - 1 = 2 * (i - (l.size : Int) - 1) by omega]
      exact subT_gap r _
theorem subT_place : ∀ {t : Tre} {i : Int}, K0 t → 0 ≤ i → i < (t.size : Int) → ∃ l v r, subT (2 * i + 1) t = .node l 0 v r
  | .nil, i, _, h0, h1 => by simp only [Tre.size] at h1; omega
  | .node l k v r, i, hk, h0, h1 => by
    simp only [Tre.size] at h1
    rw [subT]
    split
    · exact subT_place hk.2.1 h0 (by omega)
    · split
      · rw [show 2 * i + 1 - (2 * (l.size : Int) + 1) - 1 = 2 * (i - (l.size : Int) - 1) + 1 by omega]
        exact subT_place hk.2.2 (by omega) (by omega)
      · obtain ⟨rfl, _, _⟩ := hk
        exact ⟨l, v, r, rfl⟩
theorem sub_size : ∀ {t : Tre} {s : Int}, (subT s t).size ≤ t.size ∧ (subT s t).high ≤ t.high
  | .nil, s => ⟨Nat.le_refl _, Nat.le_refl _⟩
  | .node l k v r, s => by
    rw [subT]
    have h1 := sub_size (t := l) (s := s)
    have h2 := sub_size (t := r) (s := s - (2 * (l.size : Int) + 1) - 1)
    simp only [Tre.size, Tre.high]
    split
    · omega
    · split
      · omega
      · simp only [Tre.size, Tre.high]; omega
theorem setF_size (x : Int) (t : Tre) : (Tre.setF x t).size ≤ t.size + 1 := by cases t <;> simp only [Tre.setF, Tre.size] <;> omega
theorem setF_k0 (x : Int) (t : Tre) (h : K0 t) : K0 (Tre.setF x t) := by
  cases t with
  | nil => exact h
  | node => exact ⟨rfl, h.2.1, h.2.2⟩
theorem join_size (l r : Tre) : (Tre.join l r).size = l.size + r.size := by rw [← Tre.vals_len, Tre.join_vals, List.length_append, Tre.vals_len, Tre.vals_len]
theorem delF_size (t : Tre) : (Tre.delF t).size ≤ t.size + 1 := by
  cases t with
  | nil => simp only [Tre.delF, Tre.size]; omega
  | node l k v r => simp only [Tre.delF, join_size, Tre.size]; omega
theorem join_k0 {l r : Tre} (hl : K0 l) (hr : K0 r) : K0 (Tre.join l r) := by
  by_cases e1 : l = .nil
  · subst e1; exact hr
  by_cases e2 : r = .nil
  · subst e2; have e : Tre.join l .nil = l := by cases l <;> rfl
    rw [e]; exact hl
  rw [join_node e1 e2]
  exact K0_lev _ hl (chg_pop_k0 hr e2)
theorem delF_k0 (t : Tre) (h : K0 t) : K0 (Tre.delF t) := by
  cases t with
  | nil => exact h
  | node => exact join_k0 h.2.1 h.2.2
set_option maxRecDepth 100000 in
set_option maxHeartbeats 4000000 in
theorem del1_any {B : Nat} {a : Option Addr} {root had : Int} {room : Nat} {W0 : World} {O0 : Option Nat} {zs : List Cel} {w : World} {o : Option Nat} {bs : List (Nat × Obj)} {l r : Tre} {v j : Int} (ge : Nat) (h : EDS B (.pointer a) root had room W0 O0 w o zs 0 bs) (he : (ge, boxE B) ∈ bs) (ht : Tr zs (.node l 0 v r) j) (kl : K0 l) (kr : K0 r) (h1 : l.size ≤ 500000) (h2 : r.size ≤ 500000) :
    Calls Try.prog 55 #[celV (celAt zs j), .pointer (some ⟨ge, 0, none⟩)] w (EOS B (.pointer a) root had room W0 O0 zs (3 * r.high + 3) (Tre.join l r) bs) := by
  obtain ⟨_, ia, ib, hc, hl, hr⟩ := ht
  rw [hc]
  generalize ((Tre.node l 0 v r).size : Int) = cs
  generalize ((Tre.node l 0 v r).high : Int) = ch
  clear hc
  have J1 := Lib.hid (h.alloc (boxC ⟨ia, ib, 0, v, cs, ch⟩))
  have HJ := Lib.hid (ejoin J1.out hl hr kl kr h1 h2)
  have HT : Hid (∀ e w', EOS B (.pointer a) root had room W0 O0 zs (3 * r.high + 3) (Tre.join l r) ((w.heap.size, boxC ⟨ia, ib, 0, v, cs, ch⟩) :: bs) e w' → ∃ x, e = .returned (.int .i64 x) ∧ EOS B (.pointer a) root had room W0 O0 zs (3 * r.high + 3) (Tre.join l r) bs (.returned (.int .i64 x)) w') := Lib.hid fun e w' h => by
    obtain ⟨R, o', k1, k2, rfl, k4⟩ := h
    exact ⟨_, rfl, R, o', k1, k2, rfl, k4.tail⟩
  have ce := (cellsE (J1.out.at_ (List.mem_cons_of_mem _ he))).2
  obtain ⟨c0, c1, _⟩ := J1.out.box (List.mem_cons_self ..)
  generalize EOS B (.pointer a) root had room W0 O0 zs (3 * r.high + 3) (Tre.join l r) ((w.heap.size, boxC ⟨ia, ib, 0, v, cs, ch⟩) :: bs) = Pj at HJ HT
  generalize EOS B (.pointer a) root had room W0 O0 zs (3 * r.high + 3) (Tre.join l r) bs = Post at HT ⊢
  unfold celV
  unfold boxC at HJ ce c0 c1
  dsimp only at HJ ce c0 c1 ⊢
  clear h he hl hr J1
  go_enter Try.func55, Try.ntmps55
  go_wp2_with fail
  refine HJ.out.mono ?_
  intro e w1 hs
  obtain ⟨x, rfl, h3⟩ := HT.out _ _ hs
  have H3 := Lib.hid h3
  clear hs h3 c0 c1 ce HJ
  go_wp2_with fail
  exact H3.out
set_option maxRecDepth 100000 in
set_option maxHeartbeats 4000000 in
theorem psisplace {pv : Value} {o : Option Nat} {room : Nat} {zs : List Cel} {w : World} {t : Tre} {root : Int} (i : Int) (h : ArV w pv o room zs) (ht : Tr zs t root) (h0 : 0 ≤ i) (h1 : i < (t.size : Int)) : Calls Try.prog 53 #[.agg #[pv, .int .i64 root], .int .i64 i] w fun e w' => e = .returned (.bool true) ∧ Below w.heap.size w w' := by
  obtain ⟨a, rfl⟩ := h.ptr
  have HB : Hid (Below w.heap.size w (w.alloc (boxS (.pointer a) root))) := Lib.hid ((Below.refl _ _).alloc (Nat.le_refl _) _)
  have HC := Lib.hid (pslen (h.below HB.out) ht)
  clear h ht
  go_enter Try.func53, Try.ntmps53
  go_wp2_with fail
  refine HC.out.mono ?_
  rintro e w1 ⟨rfl, hb⟩
  go_wp2_with fail
  go_ret
  exact ⟨by first | rfl | simp, HB.out.trans (hb.mono HB.out.size)⟩
set_option maxRecDepth 100000 in
set_option maxHeartbeats 4000000 in
theorem psnoplace {pv : Value} {o : Option Nat} {room : Nat} {zs : List Cel} {w : World} {t : Tre} {root : Int} (i : Int) (h : ArV w pv o room zs) (ht : Tr zs t root) (h1 : ¬ (0 ≤ i ∧ i < (t.size : Int))) : Calls Try.prog 53 #[.agg #[pv, .int .i64 root], .int .i64 i] w fun e w' => e = .returned (.bool false) ∧ Below w.heap.size w w' := by
  obtain ⟨a, rfl⟩ := h.ptr
  have HB : Hid (Below w.heap.size w (w.alloc (boxS (.pointer a) root))) := Lib.hid ((Below.refl _ _).alloc (Nat.le_refl _) _)
  have HC := Lib.hid (pslen (h.below HB.out) ht)
  clear h ht
  by_cases h0 : 0 ≤ i
  · have h2 : ¬ i < (t.size : Int) := fun e => h1 ⟨h0, e⟩
    clear h1
    go_enter Try.func53, Try.ntmps53
    go_wp2_with fail
    refine HC.out.mono ?_
    rintro e w1 ⟨rfl, hb⟩
    go_wp2_with fail
    go_ret
    exact ⟨by first | rfl | (simp; omega), HB.out.trans (hb.mono HB.out.size)⟩
  · clear h1
    go_enter Try.func53, Try.ntmps53
    go_wp2_with fail
    go_ret
    exact ⟨by first | rfl | (simp; omega), HB.out⟩
set_option maxRecDepth 100000 in
set_option maxHeartbeats 8000000 in
theorem psinsert {pv : Value} {o : Option Nat} {room : Nat} {zs : List Cel} {w : World} {t : Tre} {root : Int} (i : Nat) (val : Int) (hvb : -9223372036854775808 ≤ val ∧ val ≤ 9223372036854775807) (h : ArV w pv o room zs) (ht : Tr zs t root) (hk : K0 t) (hsz : t.size ≤ 500000) (hi : i ≤ t.size) :
    Calls Try.prog 14 #[.agg #[pv, .int .i64 root], .int .i64 (i : Int), .int .i64 val] w (MP pv o room zs (PutP zs (3 * t.high + 1) (Tre.insAt i val t)) (room < zs.length + (3 * t.high + 1)) w) := by
  obtain ⟨a, rfl⟩ := h.ptr
  have hb0 : Below w.heap.size w (((w.alloc (boxS (.pointer a) root)).alloc (boxI val)).alloc (boxS (.pointer none) 0)) := (((Below.refl _ _).alloc (Nat.le_refl _) _).alloc (by simp only [World.size_alloc]; omega) _).alloc (by simp only [World.size_alloc]; omega) _
  have HA := Lib.hid h
  have HB0 := Lib.hid hb0
  have HM := Lib.hid (fun (X : World) (hX : Below w.heap.size w X) => psedit root (h.below hX))
  have HLN := Lib.hid fun (X : World) (hX : Below w.heap.size w X) => pslen (h.below hX) ht
  have HPL : Hid (∀ w, Calls Try.prog 50 #[.int .i64 (i : Int)] w fun e w' => e = .returned (.int .i64 (2 * (i : Int))) ∧ w = w') := Lib.hid fun w => psgap (i : Int) w (by omega)
  have HCHA : Hid (∀ (B ge : Nat) (X : World), EDS B (.pointer a) root (zs.length : Int) room w o X o zs 0 ((ge, boxE B) :: (w.heap.size, boxS (.pointer a) root) :: (w.heap.size + 1, boxI val) :: (w.heap.size + 2, boxS (.pointer none) 0) :: []) → Calls Try.prog 49 #[.pointer (some ⟨B, 0, none⟩), .int .i64 root, .int .i64 (2 * (i : Int)), .func (.func 51) #[] #[.pointer (some ⟨ge, 0, none⟩), .pointer (some ⟨w.heap.size + 1, 0, none⟩)]] X (EOS B (.pointer a) root (zs.length : Int) room w o zs (3 * t.high + 1) (Tre.insAt i val t) ((ge, boxE B) :: (w.heap.size, boxS (.pointer a) root) :: (w.heap.size + 1, boxI val) :: (w.heap.size + 2, boxS (.pointer none) 0) :: []))) := Lib.hid fun B ge X hX =>
    change_any 51 #[.pointer (some ⟨ge, 0, none⟩), .pointer (some ⟨w.heap.size + 1, 0, none⟩)] (fun _ => Tre.node .nil 0 val .nil) 1 (fun t => by simp only [Tre.size]; omega) (fun t _ => ⟨rfl, trivial, trivial⟩) (enters_of Try.func51 (by kernel_rfl) rfl) t _ root X o [] _ _ hX ht hk hsz (by omega) (fun ex w2 o2 j hh htj => by
      rw [subT_gap]
      rw [subT_gap] at htj
      exact (ins1_any _ ge (w.heap.size + 1) val hvb hh (List.mem_append_right _ (by simp)) (List.mem_append_right _ (by simp))).mono fun e w3 h3 => h3.mono (by simp only [Tre.high]; omega))
  generalize Tre.insAt i val t = T at HCHA ⊢
  generalize 3 * t.high + 1 = n at HCHA ⊢
  have hi0 : ¬ (i : Int) < 0 := by omega
  have hi1 : ¬ (t.size : Int) < (i : Int) := by omega
  clear h ht hk hsz hi hb0
  go_enter Try.func14, Try.ntmps14
  go_wp2_with fail
  refine (HLN.out _ HB0.out).mono ?_
  rintro e w0 ⟨rfl, hb0⟩
  obtain ⟨m0, m1⟩ := (cellsS ((hb0.block w.heap.size (by simp only [World.size_alloc]; omega)).trans (heap_alloc_lt _ _ _ _ (heap_alloc_lt _ _ _ _ (heap_alloc_at _ _ _ (by simp)))))).2
  go_wp2_with fail
  refine (HM.out _ (HB0.out.trans (hb0.mono HB0.out.size))).mono ?_
  rintro e w1 ⟨B, rfl, hB, hBI, hb1⟩
  have hb := hb0.trans (hb1.mono hb0.size)
  have hsz1 := hb.size
  have hsz0 := hb0.size
  have hsz2 := hb1.size
  clear m0 m1
  have J0 : Hid (EDS B (.pointer a) root (zs.length : Int) room w o (w1.alloc (boxE B)) o zs 0 ((w1.heap.size, boxE B) :: (w.heap.size, boxS (.pointer a) root) :: (w.heap.size + 1, boxI val) :: (w.heap.size + 2, boxS (.pointer none) 0) :: [])) := Lib.hid ((EDS.begin HA.out (HB0.out.trans (hb.mono HB0.out.size)) hBI (fun q hq => by
    simp only [World.size_alloc] at hB hsz1 hsz0
    simp only [List.mem_cons, List.not_mem_nil, or_false] at hq
    rcases hq with rfl | rfl | rfl
    · exact ⟨(hb.block _ (by simp only [World.size_alloc]; omega)).trans (heap_alloc_lt _ _ _ _ (heap_alloc_lt _ _ _ _ (heap_alloc_at _ _ _ (by simp)))), by simp only; omega, by simp only; omega⟩
    · exact ⟨(hb.block _ (by simp only [World.size_alloc]; omega)).trans (heap_alloc_lt _ _ _ _ (heap_alloc_at _ _ _ (by simp))), by simp only; omega, by simp only; omega⟩
    · exact ⟨(hb.block _ (by simp only [World.size_alloc]; omega)).trans (heap_alloc_at _ _ _ (by simp)), by simp only; omega, by simp only; omega⟩) (by simp)).alloc (boxE B))
  have HGE : Hid (w.heap.size + 2 < w1.heap.size ∧ w.heap.size ≤ B) := Lib.hid (by simp only [World.size_alloc] at hB hsz1 hsz0; have := hBI.1; have := heap_lt this; omega)
  have HSB : Hid (w.heap.size ≤ B) := Lib.hid HGE.out.2
  have hs := (cellsS (J0.out.at_ (ob := boxS (.pointer a) root) (g := w.heap.size) (by simp))).2
  obtain ⟨m0, m1⟩ := hs
  clear hB hBI hb hsz1 hsz0 hsz2 hb0 hb1 HM
  have HCH0 := Lib.hid (fun X hX => HCHA.out B w1.heap.size X hX)
  obtain ⟨ge, hge⟩ : ∃ ge, ge = w1.heap.size := ⟨_, rfl⟩
  go_upto_region 4 with fail
  obtain ⟨Y, hY⟩ : ∃ Y, Y = w1.alloc (boxE B) := ⟨_, rfl⟩
  rw [← hY] at J0
  unfold boxE at hY
  rw [← hY, ← hge]
  rw [← hge] at J0 HGE HCH0
  clear hY hge m0 m1
  have J0D := Lib.hid J0.out.drew
  have HCH := Lib.hid (HCH0.out _ J0D.out)
  clear HCH0 HCHA
  refine wp_region_held_drew (S := (fun X => X.cell? ⟨ge, 0, none⟩ = some (.pointer (some ⟨B, 0, none⟩)) ∧ X.cell? ⟨w.heap.size, 1, none⟩ = some (.int .i64 root))) (by as_aux_lemma => kernel_rfl) (⟨(cellsE (J0D.out.at_ (ob := boxE B) (g := ge) (by simp))).2, (cellsS (J0D.out.at_ (ob := boxS (.pointer a) root) (g := w.heap.size) (by simp))).2.2⟩) (fun hHeld0 => ?_)
  refine wpAnyH_take (i := 0) (v := ?_) rfl (by as_aux_lemma => kernel_rfl) (by as_aux_lemma => kernel_rfl) (by as_aux_lemma => kernel_rfl) (fun _ _ _ h => h) (Or.inl ⟨by as_aux_lemma => rfl, ?yt0⟩) (by assumption) ?qt0
  case yt0 => (intro wz hSw; (try dsimp only at hSw); go_simp <;> with_reducible rfl)
  try simp only [Act.put, List.getElem_toArray, List.getElem_cons_zero, List.setIfInBounds_toArray, List.set_cons_zero, List.set_cons_succ]
  refine wpAnyH_take (i := 1) (v := ?_) rfl (by as_aux_lemma => kernel_rfl) (by as_aux_lemma => kernel_rfl) (by as_aux_lemma => kernel_rfl) (fun _ _ _ h => h) (Or.inl ⟨by as_aux_lemma => rfl, ?yt1⟩) (by assumption) ?qt1
  case yt1 => (intro wz hSw; (try dsimp only at hSw); go_simp <;> with_reducible rfl)
  try simp only [Act.put, List.getElem_toArray, List.getElem_cons_zero, List.getElem_cons_succ, List.setIfInBounds_toArray, List.set_cons_zero, List.set_cons_succ]
  refine wpAnyH_take (i := 2) (v := ?_) rfl (by as_aux_lemma => kernel_rfl) (by as_aux_lemma => kernel_rfl) (by as_aux_lemma => kernel_rfl) (fun _ _ _ h => h) (Or.inl ⟨by as_aux_lemma => rfl, ?yt2⟩) (by assumption) ?qt2
  case yt2 => (intro wz hSw; (try dsimp only at hSw); go_simp <;> with_reducible rfl)
  try simp only [Act.put, List.getElem_toArray, List.getElem_cons_zero, List.getElem_cons_succ, List.setIfInBounds_toArray, List.set_cons_zero, List.set_cons_succ]
  refine wpAnyH_take (i := 3) (v := ?_) rfl (by as_aux_lemma => kernel_rfl) (by as_aux_lemma => kernel_rfl) (by as_aux_lemma => kernel_rfl) (fun _ _ _ h => h) (Or.inl ⟨by as_aux_lemma => rfl, ?yt3⟩) (by assumption) ?qt3
  case yt3 => (intro wz hSw; (try dsimp only at hSw); go_simp <;> with_reducible rfl)
  try simp only [Act.put, List.getElem_toArray, List.getElem_cons_zero, List.getElem_cons_succ, List.setIfInBounds_toArray, List.set_cons_zero, List.set_cons_succ]
  refine wpAnyH_take (i := 4) (v := ?_) rfl (by as_aux_lemma => kernel_rfl) (by as_aux_lemma => kernel_rfl) (by as_aux_lemma => kernel_rfl) (fun _ _ _ h => h) (Or.inl ⟨by as_aux_lemma => rfl, ?yt4⟩) (by assumption) ?qt4
  case yt4 => (intro wz hSw; (try dsimp only at hSw); go_simp <;> with_reducible rfl)
  try simp only [Act.put, List.getElem_toArray, List.getElem_cons_zero, List.getElem_cons_succ, List.setIfInBounds_toArray, List.set_cons_zero, List.set_cons_succ]
  refine wpAnyH_take (i := 6) (v := ?_) rfl (by as_aux_lemma => kernel_rfl) (by as_aux_lemma => kernel_rfl) (by as_aux_lemma => kernel_rfl) (fun _ _ _ h => h) (Or.inl ⟨by as_aux_lemma => rfl, ?yt6⟩) (by assumption) ?qt6
  case yt6 => (intro wz hSw; (try dsimp only at hSw); go_simp <;> with_reducible rfl)
  try simp only [Act.put, List.getElem_toArray, List.getElem_cons_zero, List.getElem_cons_succ, List.setIfInBounds_toArray, List.set_cons_zero, List.set_cons_succ]
  refine wpAnyH_ready (rs := [5]) (by as_aux_lemma => kernel_rfl) (by simp) ?_
  refine AllReadyH.cons rfl (fun K hK => ?_) AllReadyH.nil
  go_simp
  refine (HPL.out _).mono ?_
  rintro e u1 ⟨rfl, rfl⟩
  refine hK.out _ _ (⟨(cellsE (J0D.out.at_ (ob := boxE B) (g := ge) (by simp))).2, (cellsS (J0D.out.at_ (ob := boxS (.pointer a) root) (g := w.heap.size) (by simp))).2.2⟩) (fun hHeld1 => ?_)
  clear hK K
  try simp only [Act.put, List.getElem_toArray, List.getElem_cons_zero, List.getElem_cons_succ, List.setIfInBounds_toArray, List.set_cons_zero, List.set_cons_succ]
  refine wpAnyH_ready (rs := [7]) (by as_aux_lemma => kernel_rfl) (by simp) ?_
  refine AllReadyH.cons rfl (fun K hK => ?_) AllReadyH.nil
  go_simp
  refine HCH.out.mono ?_
  rintro e u2 ⟨R, o5, hO, hlen, rfl, j5⟩
  have JB := Lib.hid j5
  have HFN := Lib.hid (psfin HSB.out j5 hO)
  clear hO hlen j5 HCH
  refine hK.out _ _ (⟨(cellsE (JB.out.at_ (ob := boxE B) (g := ge) (by simp))).2, (cellsS (JB.out.at_ (ob := boxS (.pointer a) root) (g := w.heap.size) (by simp))).2.2⟩) (fun hHeld2 => ?_)
  clear hK K
  try simp only [Act.put, List.getElem_toArray, List.getElem_cons_zero, List.getElem_cons_succ, List.setIfInBounds_toArray, List.set_cons_zero, List.set_cons_succ]
  refine wpAnyH_ready (rs := [8]) (by as_aux_lemma => kernel_rfl) (by simp) ?_
  refine AllReadyH.cons rfl (fun K hK => ?_) AllReadyH.nil
  go_simp
  refine HFN.out.mono ?_
  rintro e u3 ⟨root2, why2, zs2, o2, rfl, HE⟩
  clear HFN
  refine hK.out _ _ (⟨(cellsE (HE.out.2.2.2.2 (ge, boxE B) (by simp)).1).2, (cellsS (HE.out.2.2.2.2 (w.heap.size, boxS (.pointer a) root) (by simp)).1).2.2⟩) (fun hHeld3 => ?_)
  clear hK K
  try simp only [Act.put, List.getElem_toArray, List.getElem_cons_zero, List.getElem_cons_succ, List.setIfInBounds_toArray, List.set_cons_zero, List.set_cons_succ]
  refine wpAnyH_take (i := 9) (v := ?_) rfl (by as_aux_lemma => kernel_rfl) (by as_aux_lemma => kernel_rfl) (by as_aux_lemma => kernel_rfl) (fun _ _ _ h => h) (Or.inl ⟨by as_aux_lemma => rfl, ?yt9⟩) (by assumption) ?qt9
  case yt9 => (intro wz hSw; (try dsimp only at hSw); go_simp <;> with_reducible rfl)
  try simp only [Act.put, List.getElem_toArray, List.getElem_cons_zero, List.getElem_cons_succ, List.setIfInBounds_toArray, List.set_cons_zero, List.set_cons_succ]
  refine wpAnyH_take (i := 10) (v := ?_) rfl (by as_aux_lemma => kernel_rfl) (by as_aux_lemma => kernel_rfl) (by as_aux_lemma => kernel_rfl) (fun _ _ _ h => h) (Or.inl ⟨by as_aux_lemma => rfl, ?yt10⟩) (by assumption) ?qt10
  case yt10 => (intro wz hSw; (try dsimp only at hSw); go_simp <;> with_reducible rfl)
  try simp only [Act.put, List.getElem_toArray, List.getElem_cons_zero, List.getElem_cons_succ, List.setIfInBounds_toArray, List.set_cons_zero, List.set_cons_succ]
  refine wpAnyH_ready (rs := [11]) (by as_aux_lemma => kernel_rfl) (by simp) ?_
  refine AllReadyH.cons rfl (fun K hK => ?_) AllReadyH.nil
  refine wp_store_seq (.tmp 6) (.tmp 31) rfl (w.heap.size + 2) a none root2 0 rfl rfl (HE.out.2.2.2.2 (w.heap.size + 2, boxS (.pointer none) 0) (by simp)).1 ?_
  intro u4 hst
  have HST := Lib.hid hst
  clear hst
  refine hK.out _ _ (⟨(cellsE ((HST.out.2.2.2.2.2 ge (by have := HGE.out; omega)).trans (HE.out.2.2.2.2 (ge, boxE B) (by simp)).1)).2, (cellsS ((HST.out.2.2.2.2.2 w.heap.size (by omega)).trans (HE.out.2.2.2.2 (w.heap.size, boxS (.pointer a) root) (by simp)).1)).2.2⟩) (fun hHeld4 => ?_)
  clear hK K
  try simp only [Act.put, List.getElem_toArray, List.getElem_cons_zero, List.getElem_cons_succ]
  refine wpAnyH_take (i := 12) (v := ?_) rfl (by as_aux_lemma => kernel_rfl) (by as_aux_lemma => kernel_rfl) (by as_aux_lemma => kernel_rfl) (fun _ _ _ h => h) (Or.inl ⟨by as_aux_lemma => rfl, ?yt12⟩) (by assumption) ?qt12
  case yt12 => (intro wz hSw; (try dsimp only at hSw); go_simp <;> with_reducible rfl)
  try simp only [Act.put, List.getElem_toArray, List.getElem_cons_zero, List.getElem_cons_succ, List.setIfInBounds_toArray, List.set_cons_zero, List.set_cons_succ]
  refine wpAnyH_done (by as_aux_lemma => kernel_rfl) ?_ _
  obtain ⟨_, r0, r1⟩ := cellsS HST.out.2.2.2.2.1
  go_wp2_with fail
  exact bodyPost_ret (v := .tuple #[.agg #[.pointer a, .int .i64 root2], .int .i64 why2]) (by simp [results, Try.results14, go_sem, r0, r1]) rfl (sfin_end HE.out (gr := w.heap.size + 2) (ob := boxS (.pointer none) 0) (by simp) HST.out)
set_option maxRecDepth 100000 in
set_option maxHeartbeats 8000000 in
theorem psset {pv : Value} {o : Option Nat} {room : Nat} {zs : List Cel} {w : World} {t : Tre} {root : Int} (i : Nat) (val : Int) (hvb : -9223372036854775808 ≤ val ∧ val ≤ 9223372036854775807) (h : ArV w pv o room zs) (ht : Tr zs t root) (hk : K0 t) (hsz : t.size ≤ 500000) (hi : i < t.size) :
    Calls Try.prog 34 #[.agg #[pv, .int .i64 root], .int .i64 (i : Int), .int .i64 val] w (MP pv o room zs (PutP zs (3 * t.high + 0) (Tre.setAt i val t)) (room < zs.length + (3 * t.high + 0)) w) := by
  obtain ⟨a, rfl⟩ := h.ptr
  have hb0 : Below w.heap.size w (((w.alloc (boxS (.pointer a) root)).alloc (boxI val)).alloc (boxS (.pointer none) 0)) := (((Below.refl _ _).alloc (Nat.le_refl _) _).alloc (by simp only [World.size_alloc]; omega) _).alloc (by simp only [World.size_alloc]; omega) _
  have HA := Lib.hid h
  have HB0 := Lib.hid hb0
  have HM := Lib.hid (fun (X : World) (hX : Below w.heap.size w X) => psedit root (h.below hX))
  have HLN := Lib.hid fun (X : World) (hX : Below w.heap.size w X) => psisplace (i : Int) (h.below hX) ht (by omega) (by omega)
  have HPL : Hid (∀ w, Calls Try.prog 54 #[.int .i64 (i : Int)] w fun e w' => e = .returned (.int .i64 (2 * (i : Int) + 1)) ∧ w = w') := Lib.hid fun w => psplace (i : Int) w (by omega)
  have HCHA : Hid (∀ (B ge : Nat) (X : World), EDS B (.pointer a) root (zs.length : Int) room w o X o zs 0 ((ge, boxE B) :: (w.heap.size, boxS (.pointer a) root) :: (w.heap.size + 1, boxI val) :: (w.heap.size + 2, boxS (.pointer none) 0) :: []) → Calls Try.prog 49 #[.pointer (some ⟨B, 0, none⟩), .int .i64 root, .int .i64 (2 * (i : Int) + 1), .func (.func 72) #[] #[.pointer (some ⟨ge, 0, none⟩), .pointer (some ⟨w.heap.size + 1, 0, none⟩)]] X (EOS B (.pointer a) root (zs.length : Int) room w o zs (3 * t.high + 0) (Tre.setAt i val t) ((ge, boxE B) :: (w.heap.size, boxS (.pointer a) root) :: (w.heap.size + 1, boxI val) :: (w.heap.size + 2, boxS (.pointer none) 0) :: []))) := Lib.hid fun B ge X hX =>
    change_any 72 #[.pointer (some ⟨ge, 0, none⟩), .pointer (some ⟨w.heap.size + 1, 0, none⟩)] (Tre.setF val) 0 (setF_size val) (setF_k0 val) (enters_of Try.func72 (by kernel_rfl) rfl) t _ root X o [] _ _ hX ht hk hsz (by omega) (fun ex w2 o2 j hh htj => by
      obtain ⟨l, v, r, hsub⟩ := subT_place hk (by omega) (show (i : Int) < (t.size : Int) by omega)
      have hss := sub_size (t := t) (s := 2 * (i : Int) + 1)
      rw [hsub] at htj hss ⊢
      simp only [Tre.size] at hss
      exact (set1_any ge (w.heap.size + 1) val hvb hh (List.mem_append_right _ (by simp)) (List.mem_append_right _ (by simp)) htj (by omega) (by omega)).mono fun e w3 h3 => h3.mono (by simp only [Tre.high]; omega))
  generalize Tre.setAt i val t = T at HCHA ⊢
  generalize 3 * t.high + 0 = n at HCHA ⊢
  skip
  clear h ht hk hsz hi hb0
  go_enter Try.func34, Try.ntmps34
  go_wp2_with fail
  refine (HLN.out _ HB0.out).mono ?_
  rintro e w0 ⟨rfl, hb0⟩
  obtain ⟨m0, m1⟩ := (cellsS ((hb0.block w.heap.size (by simp only [World.size_alloc]; omega)).trans (heap_alloc_lt _ _ _ _ (heap_alloc_lt _ _ _ _ (heap_alloc_at _ _ _ (by simp)))))).2
  go_wp2_with fail
  refine (HM.out _ (HB0.out.trans (hb0.mono HB0.out.size))).mono ?_
  rintro e w1 ⟨B, rfl, hB, hBI, hb1⟩
  have hb := hb0.trans (hb1.mono hb0.size)
  have hsz1 := hb.size
  have hsz0 := hb0.size
  have hsz2 := hb1.size
  clear m0 m1
  have J0 : Hid (EDS B (.pointer a) root (zs.length : Int) room w o (w1.alloc (boxE B)) o zs 0 ((w1.heap.size, boxE B) :: (w.heap.size, boxS (.pointer a) root) :: (w.heap.size + 1, boxI val) :: (w.heap.size + 2, boxS (.pointer none) 0) :: [])) := Lib.hid ((EDS.begin HA.out (HB0.out.trans (hb.mono HB0.out.size)) hBI (fun q hq => by
    simp only [World.size_alloc] at hB hsz1 hsz0
    simp only [List.mem_cons, List.not_mem_nil, or_false] at hq
    rcases hq with rfl | rfl | rfl
    · exact ⟨(hb.block _ (by simp only [World.size_alloc]; omega)).trans (heap_alloc_lt _ _ _ _ (heap_alloc_lt _ _ _ _ (heap_alloc_at _ _ _ (by simp)))), by simp only; omega, by simp only; omega⟩
    · exact ⟨(hb.block _ (by simp only [World.size_alloc]; omega)).trans (heap_alloc_lt _ _ _ _ (heap_alloc_at _ _ _ (by simp))), by simp only; omega, by simp only; omega⟩
    · exact ⟨(hb.block _ (by simp only [World.size_alloc]; omega)).trans (heap_alloc_at _ _ _ (by simp)), by simp only; omega, by simp only; omega⟩) (by simp)).alloc (boxE B))
  have HGE : Hid (w.heap.size + 2 < w1.heap.size ∧ w.heap.size ≤ B) := Lib.hid (by simp only [World.size_alloc] at hB hsz1 hsz0; have := hBI.1; have := heap_lt this; omega)
  have HSB : Hid (w.heap.size ≤ B) := Lib.hid HGE.out.2
  have hs := (cellsS (J0.out.at_ (ob := boxS (.pointer a) root) (g := w.heap.size) (by simp))).2
  obtain ⟨m0, m1⟩ := hs
  clear hB hBI hb hsz1 hsz0 hsz2 hb0 hb1 HM
  have HCH0 := Lib.hid (fun X hX => HCHA.out B w1.heap.size X hX)
  obtain ⟨ge, hge⟩ : ∃ ge, ge = w1.heap.size := ⟨_, rfl⟩
  go_upto_region 4 with fail
  obtain ⟨Y, hY⟩ : ∃ Y, Y = w1.alloc (boxE B) := ⟨_, rfl⟩
  rw [← hY] at J0
  unfold boxE at hY
  rw [← hY, ← hge]
  rw [← hge] at J0 HGE HCH0
  clear hY hge m0 m1
  have J0D := Lib.hid J0.out.drew
  have HCH := Lib.hid (HCH0.out _ J0D.out)
  clear HCH0 HCHA
  refine wp_region_held_drew (S := (fun X => X.cell? ⟨ge, 0, none⟩ = some (.pointer (some ⟨B, 0, none⟩)) ∧ X.cell? ⟨w.heap.size, 1, none⟩ = some (.int .i64 root))) (by as_aux_lemma => kernel_rfl) (⟨(cellsE (J0D.out.at_ (ob := boxE B) (g := ge) (by simp))).2, (cellsS (J0D.out.at_ (ob := boxS (.pointer a) root) (g := w.heap.size) (by simp))).2.2⟩) (fun hHeld0 => ?_)
  refine wpAnyH_take (i := 0) (v := ?_) rfl (by as_aux_lemma => kernel_rfl) (by as_aux_lemma => kernel_rfl) (by as_aux_lemma => kernel_rfl) (fun _ _ _ h => h) (Or.inl ⟨by as_aux_lemma => rfl, ?yt0⟩) (by assumption) ?qt0
  case yt0 => (intro wz hSw; (try dsimp only at hSw); go_simp <;> with_reducible rfl)
  try simp only [Act.put, List.getElem_toArray, List.getElem_cons_zero, List.setIfInBounds_toArray, List.set_cons_zero, List.set_cons_succ]
  refine wpAnyH_take (i := 1) (v := ?_) rfl (by as_aux_lemma => kernel_rfl) (by as_aux_lemma => kernel_rfl) (by as_aux_lemma => kernel_rfl) (fun _ _ _ h => h) (Or.inl ⟨by as_aux_lemma => rfl, ?yt1⟩) (by assumption) ?qt1
  case yt1 => (intro wz hSw; (try dsimp only at hSw); go_simp <;> with_reducible rfl)
  try simp only [Act.put, List.getElem_toArray, List.getElem_cons_zero, List.getElem_cons_succ, List.setIfInBounds_toArray, List.set_cons_zero, List.set_cons_succ]
  refine wpAnyH_take (i := 2) (v := ?_) rfl (by as_aux_lemma => kernel_rfl) (by as_aux_lemma => kernel_rfl) (by as_aux_lemma => kernel_rfl) (fun _ _ _ h => h) (Or.inl ⟨by as_aux_lemma => rfl, ?yt2⟩) (by assumption) ?qt2
  case yt2 => (intro wz hSw; (try dsimp only at hSw); go_simp <;> with_reducible rfl)
  try simp only [Act.put, List.getElem_toArray, List.getElem_cons_zero, List.getElem_cons_succ, List.setIfInBounds_toArray, List.set_cons_zero, List.set_cons_succ]
  refine wpAnyH_take (i := 3) (v := ?_) rfl (by as_aux_lemma => kernel_rfl) (by as_aux_lemma => kernel_rfl) (by as_aux_lemma => kernel_rfl) (fun _ _ _ h => h) (Or.inl ⟨by as_aux_lemma => rfl, ?yt3⟩) (by assumption) ?qt3
  case yt3 => (intro wz hSw; (try dsimp only at hSw); go_simp <;> with_reducible rfl)
  try simp only [Act.put, List.getElem_toArray, List.getElem_cons_zero, List.getElem_cons_succ, List.setIfInBounds_toArray, List.set_cons_zero, List.set_cons_succ]
  refine wpAnyH_take (i := 4) (v := ?_) rfl (by as_aux_lemma => kernel_rfl) (by as_aux_lemma => kernel_rfl) (by as_aux_lemma => kernel_rfl) (fun _ _ _ h => h) (Or.inl ⟨by as_aux_lemma => rfl, ?yt4⟩) (by assumption) ?qt4
  case yt4 => (intro wz hSw; (try dsimp only at hSw); go_simp <;> with_reducible rfl)
  try simp only [Act.put, List.getElem_toArray, List.getElem_cons_zero, List.getElem_cons_succ, List.setIfInBounds_toArray, List.set_cons_zero, List.set_cons_succ]
  refine wpAnyH_take (i := 6) (v := ?_) rfl (by as_aux_lemma => kernel_rfl) (by as_aux_lemma => kernel_rfl) (by as_aux_lemma => kernel_rfl) (fun _ _ _ h => h) (Or.inl ⟨by as_aux_lemma => rfl, ?yt6⟩) (by assumption) ?qt6
  case yt6 => (intro wz hSw; (try dsimp only at hSw); go_simp <;> with_reducible rfl)
  try simp only [Act.put, List.getElem_toArray, List.getElem_cons_zero, List.getElem_cons_succ, List.setIfInBounds_toArray, List.set_cons_zero, List.set_cons_succ]
  refine wpAnyH_ready (rs := [5]) (by as_aux_lemma => kernel_rfl) (by simp) ?_
  refine AllReadyH.cons rfl (fun K hK => ?_) AllReadyH.nil
  go_simp
  refine (HPL.out _).mono ?_
  rintro e u1 ⟨rfl, rfl⟩
  refine hK.out _ _ (⟨(cellsE (J0D.out.at_ (ob := boxE B) (g := ge) (by simp))).2, (cellsS (J0D.out.at_ (ob := boxS (.pointer a) root) (g := w.heap.size) (by simp))).2.2⟩) (fun hHeld1 => ?_)
  clear hK K
  try simp only [Act.put, List.getElem_toArray, List.getElem_cons_zero, List.getElem_cons_succ, List.setIfInBounds_toArray, List.set_cons_zero, List.set_cons_succ]
  refine wpAnyH_ready (rs := [7]) (by as_aux_lemma => kernel_rfl) (by simp) ?_
  refine AllReadyH.cons rfl (fun K hK => ?_) AllReadyH.nil
  go_simp
  refine HCH.out.mono ?_
  rintro e u2 ⟨R, o5, hO, hlen, rfl, j5⟩
  have JB := Lib.hid j5
  have HFN := Lib.hid (psfin HSB.out j5 hO)
  clear hO hlen j5 HCH
  refine hK.out _ _ (⟨(cellsE (JB.out.at_ (ob := boxE B) (g := ge) (by simp))).2, (cellsS (JB.out.at_ (ob := boxS (.pointer a) root) (g := w.heap.size) (by simp))).2.2⟩) (fun hHeld2 => ?_)
  clear hK K
  try simp only [Act.put, List.getElem_toArray, List.getElem_cons_zero, List.getElem_cons_succ, List.setIfInBounds_toArray, List.set_cons_zero, List.set_cons_succ]
  refine wpAnyH_ready (rs := [8]) (by as_aux_lemma => kernel_rfl) (by simp) ?_
  refine AllReadyH.cons rfl (fun K hK => ?_) AllReadyH.nil
  go_simp
  refine HFN.out.mono ?_
  rintro e u3 ⟨root2, why2, zs2, o2, rfl, HE⟩
  clear HFN
  refine hK.out _ _ (⟨(cellsE (HE.out.2.2.2.2 (ge, boxE B) (by simp)).1).2, (cellsS (HE.out.2.2.2.2 (w.heap.size, boxS (.pointer a) root) (by simp)).1).2.2⟩) (fun hHeld3 => ?_)
  clear hK K
  try simp only [Act.put, List.getElem_toArray, List.getElem_cons_zero, List.getElem_cons_succ, List.setIfInBounds_toArray, List.set_cons_zero, List.set_cons_succ]
  refine wpAnyH_take (i := 9) (v := ?_) rfl (by as_aux_lemma => kernel_rfl) (by as_aux_lemma => kernel_rfl) (by as_aux_lemma => kernel_rfl) (fun _ _ _ h => h) (Or.inl ⟨by as_aux_lemma => rfl, ?yt9⟩) (by assumption) ?qt9
  case yt9 => (intro wz hSw; (try dsimp only at hSw); go_simp <;> with_reducible rfl)
  try simp only [Act.put, List.getElem_toArray, List.getElem_cons_zero, List.getElem_cons_succ, List.setIfInBounds_toArray, List.set_cons_zero, List.set_cons_succ]
  refine wpAnyH_take (i := 10) (v := ?_) rfl (by as_aux_lemma => kernel_rfl) (by as_aux_lemma => kernel_rfl) (by as_aux_lemma => kernel_rfl) (fun _ _ _ h => h) (Or.inl ⟨by as_aux_lemma => rfl, ?yt10⟩) (by assumption) ?qt10
  case yt10 => (intro wz hSw; (try dsimp only at hSw); go_simp <;> with_reducible rfl)
  try simp only [Act.put, List.getElem_toArray, List.getElem_cons_zero, List.getElem_cons_succ, List.setIfInBounds_toArray, List.set_cons_zero, List.set_cons_succ]
  refine wpAnyH_ready (rs := [11]) (by as_aux_lemma => kernel_rfl) (by simp) ?_
  refine AllReadyH.cons rfl (fun K hK => ?_) AllReadyH.nil
  refine wp_store_seq (.tmp 6) (.tmp 27) rfl (w.heap.size + 2) a none root2 0 rfl rfl (HE.out.2.2.2.2 (w.heap.size + 2, boxS (.pointer none) 0) (by simp)).1 ?_
  intro u4 hst
  have HST := Lib.hid hst
  clear hst
  refine hK.out _ _ (⟨(cellsE ((HST.out.2.2.2.2.2 ge (by have := HGE.out; omega)).trans (HE.out.2.2.2.2 (ge, boxE B) (by simp)).1)).2, (cellsS ((HST.out.2.2.2.2.2 w.heap.size (by omega)).trans (HE.out.2.2.2.2 (w.heap.size, boxS (.pointer a) root) (by simp)).1)).2.2⟩) (fun hHeld4 => ?_)
  clear hK K
  try simp only [Act.put, List.getElem_toArray, List.getElem_cons_zero, List.getElem_cons_succ]
  refine wpAnyH_take (i := 12) (v := ?_) rfl (by as_aux_lemma => kernel_rfl) (by as_aux_lemma => kernel_rfl) (by as_aux_lemma => kernel_rfl) (fun _ _ _ h => h) (Or.inl ⟨by as_aux_lemma => rfl, ?yt12⟩) (by assumption) ?qt12
  case yt12 => (intro wz hSw; (try dsimp only at hSw); go_simp <;> with_reducible rfl)
  try simp only [Act.put, List.getElem_toArray, List.getElem_cons_zero, List.getElem_cons_succ, List.setIfInBounds_toArray, List.set_cons_zero, List.set_cons_succ]
  refine wpAnyH_done (by as_aux_lemma => kernel_rfl) ?_ _
  obtain ⟨_, r0, r1⟩ := cellsS HST.out.2.2.2.2.1
  go_wp2_with fail
  exact bodyPost_ret (v := .tuple #[.agg #[.pointer a, .int .i64 root2], .int .i64 why2]) (by simp [results, Try.results34, go_sem, r0, r1]) rfl (sfin_end HE.out (gr := w.heap.size + 2) (ob := boxS (.pointer none) 0) (by simp) HST.out)
set_option maxRecDepth 100000 in
set_option maxHeartbeats 8000000 in
theorem psdel {pv : Value} {o : Option Nat} {room : Nat} {zs : List Cel} {w : World} {t : Tre} {root : Int} (i : Nat) (h : ArV w pv o room zs) (ht : Tr zs t root) (hk : K0 t) (hsz : t.size ≤ 500000) (hi : i < t.size) :
    Calls Try.prog 15 #[.agg #[pv, .int .i64 root], .int .i64 (i : Int)] w (MP pv o room zs (PutP zs (3 * t.high + 0) (Tre.delAt i t)) (room < zs.length + (3 * t.high + 0)) w) := by
  obtain ⟨a, rfl⟩ := h.ptr
  have hb0 : Below w.heap.size w ((w.alloc (boxS (.pointer a) root)).alloc (boxS (.pointer none) 0)) := ((Below.refl _ _).alloc (Nat.le_refl _) _).alloc (by simp only [World.size_alloc]; omega) _
  have HA := Lib.hid h
  have HB0 := Lib.hid hb0
  have HM := Lib.hid (fun (X : World) (hX : Below w.heap.size w X) => psedit root (h.below hX))
  have HLN := Lib.hid fun (X : World) (hX : Below w.heap.size w X) => psisplace (i : Int) (h.below hX) ht (by omega) (by omega)
  have HPL : Hid (∀ w, Calls Try.prog 54 #[.int .i64 (i : Int)] w fun e w' => e = .returned (.int .i64 (2 * (i : Int) + 1)) ∧ w = w') := Lib.hid fun w => psplace (i : Int) w (by omega)
  have HCHA : Hid (∀ (B ge : Nat) (X : World), EDS B (.pointer a) root (zs.length : Int) room w o X o zs 0 ((ge, boxE B) :: (w.heap.size, boxS (.pointer a) root) :: (w.heap.size + 1, boxS (.pointer none) 0) :: []) → Calls Try.prog 49 #[.pointer (some ⟨B, 0, none⟩), .int .i64 root, .int .i64 (2 * (i : Int) + 1), .func (.func 55) #[] #[.pointer (some ⟨ge, 0, none⟩)]] X (EOS B (.pointer a) root (zs.length : Int) room w o zs (3 * t.high + 0) (Tre.delAt i t) ((ge, boxE B) :: (w.heap.size, boxS (.pointer a) root) :: (w.heap.size + 1, boxS (.pointer none) 0) :: []))) := Lib.hid fun B ge X hX =>
    change_any 55 #[.pointer (some ⟨ge, 0, none⟩)] (Tre.delF) 0 delF_size delF_k0 (enters_of Try.func55 (by kernel_rfl) rfl) t _ root X o [] _ _ hX ht hk hsz (by omega) (fun ex w2 o2 j hh htj => by
      obtain ⟨l, v, r, hsub⟩ := subT_place hk (by omega) (show (i : Int) < (t.size : Int) by omega)
      have hss := sub_size (t := t) (s := 2 * (i : Int) + 1)
      have hks := k0_sub (2 * (i : Int) + 1) hk
      rw [hsub] at htj hss hks ⊢
      simp only [Tre.size] at hss
      exact (del1_any ge hh (List.mem_append_right _ (by simp)) htj hks.2.1 hks.2.2 (by omega) (by omega)).mono fun e w3 h3 => h3.mono (by simp only [Tre.high]; omega))
  generalize Tre.delAt i t = T at HCHA ⊢
  generalize 3 * t.high + 0 = n at HCHA ⊢
  skip
  clear h ht hk hsz hi hb0
  go_enter Try.func15, Try.ntmps15
  go_wp2_with fail
  refine (HLN.out _ HB0.out).mono ?_
  rintro e w0 ⟨rfl, hb0⟩
  obtain ⟨m0, m1⟩ := (cellsS ((hb0.block w.heap.size (by simp only [World.size_alloc]; omega)).trans (heap_alloc_lt _ _ _ _ (heap_alloc_at _ _ _ (by simp))))).2
  go_wp2_with fail
  refine (HM.out _ (HB0.out.trans (hb0.mono HB0.out.size))).mono ?_
  rintro e w1 ⟨B, rfl, hB, hBI, hb1⟩
  have hb := hb0.trans (hb1.mono hb0.size)
  have hsz1 := hb.size
  have hsz0 := hb0.size
  have hsz2 := hb1.size
  clear m0 m1
  have J0 : Hid (EDS B (.pointer a) root (zs.length : Int) room w o (w1.alloc (boxE B)) o zs 0 ((w1.heap.size, boxE B) :: (w.heap.size, boxS (.pointer a) root) :: (w.heap.size + 1, boxS (.pointer none) 0) :: [])) := Lib.hid ((EDS.begin HA.out (HB0.out.trans (hb.mono HB0.out.size)) hBI (fun q hq => by
    simp only [World.size_alloc] at hB hsz1 hsz0
    simp only [List.mem_cons, List.not_mem_nil, or_false] at hq
    rcases hq with rfl | rfl
    · exact ⟨(hb.block _ (by simp only [World.size_alloc]; omega)).trans (heap_alloc_lt _ _ _ _ (heap_alloc_at _ _ _ (by simp))), by simp only; omega, by simp only; omega⟩
    · exact ⟨(hb.block _ (by simp only [World.size_alloc]; omega)).trans (heap_alloc_at _ _ _ (by simp)), by simp only; omega, by simp only; omega⟩) (by simp)).alloc (boxE B))
  have HGE : Hid (w.heap.size + 1 < w1.heap.size ∧ w.heap.size ≤ B) := Lib.hid (by simp only [World.size_alloc] at hB hsz1 hsz0; have := hBI.1; have := heap_lt this; omega)
  have HSB : Hid (w.heap.size ≤ B) := Lib.hid HGE.out.2
  have hs := (cellsS (J0.out.at_ (ob := boxS (.pointer a) root) (g := w.heap.size) (by simp))).2
  obtain ⟨m0, m1⟩ := hs
  clear hB hBI hb hsz1 hsz0 hsz2 hb0 hb1 HM
  have HCH0 := Lib.hid (fun X hX => HCHA.out B w1.heap.size X hX)
  obtain ⟨ge, hge⟩ : ∃ ge, ge = w1.heap.size := ⟨_, rfl⟩
  go_upto_region 4 with fail
  obtain ⟨Y, hY⟩ : ∃ Y, Y = w1.alloc (boxE B) := ⟨_, rfl⟩
  rw [← hY] at J0
  unfold boxE at hY
  rw [← hY, ← hge]
  rw [← hge] at J0 HGE HCH0
  clear hY hge m0 m1
  have J0D := Lib.hid J0.out.drew
  have HCH := Lib.hid (HCH0.out _ J0D.out)
  clear HCH0 HCHA
  refine wp_region_held_drew (S := (fun X => X.cell? ⟨ge, 0, none⟩ = some (.pointer (some ⟨B, 0, none⟩)) ∧ X.cell? ⟨w.heap.size, 1, none⟩ = some (.int .i64 root))) (by as_aux_lemma => kernel_rfl) (⟨(cellsE (J0D.out.at_ (ob := boxE B) (g := ge) (by simp))).2, (cellsS (J0D.out.at_ (ob := boxS (.pointer a) root) (g := w.heap.size) (by simp))).2.2⟩) (fun hHeld0 => ?_)
  refine wpAnyH_take (i := 0) (v := ?_) rfl (by as_aux_lemma => kernel_rfl) (by as_aux_lemma => kernel_rfl) (by as_aux_lemma => kernel_rfl) (fun _ _ _ h => h) (Or.inl ⟨by as_aux_lemma => rfl, ?yt0⟩) (by assumption) ?qt0
  case yt0 => (intro wz hSw; (try dsimp only at hSw); go_simp <;> with_reducible rfl)
  try simp only [Act.put, List.getElem_toArray, List.getElem_cons_zero, List.setIfInBounds_toArray, List.set_cons_zero, List.set_cons_succ]
  refine wpAnyH_take (i := 1) (v := ?_) rfl (by as_aux_lemma => kernel_rfl) (by as_aux_lemma => kernel_rfl) (by as_aux_lemma => kernel_rfl) (fun _ _ _ h => h) (Or.inl ⟨by as_aux_lemma => rfl, ?yt1⟩) (by assumption) ?qt1
  case yt1 => (intro wz hSw; (try dsimp only at hSw); go_simp <;> with_reducible rfl)
  try simp only [Act.put, List.getElem_toArray, List.getElem_cons_zero, List.getElem_cons_succ, List.setIfInBounds_toArray, List.set_cons_zero, List.set_cons_succ]
  refine wpAnyH_take (i := 2) (v := ?_) rfl (by as_aux_lemma => kernel_rfl) (by as_aux_lemma => kernel_rfl) (by as_aux_lemma => kernel_rfl) (fun _ _ _ h => h) (Or.inl ⟨by as_aux_lemma => rfl, ?yt2⟩) (by assumption) ?qt2
  case yt2 => (intro wz hSw; (try dsimp only at hSw); go_simp <;> with_reducible rfl)
  try simp only [Act.put, List.getElem_toArray, List.getElem_cons_zero, List.getElem_cons_succ, List.setIfInBounds_toArray, List.set_cons_zero, List.set_cons_succ]
  refine wpAnyH_take (i := 3) (v := ?_) rfl (by as_aux_lemma => kernel_rfl) (by as_aux_lemma => kernel_rfl) (by as_aux_lemma => kernel_rfl) (fun _ _ _ h => h) (Or.inl ⟨by as_aux_lemma => rfl, ?yt3⟩) (by assumption) ?qt3
  case yt3 => (intro wz hSw; (try dsimp only at hSw); go_simp <;> with_reducible rfl)
  try simp only [Act.put, List.getElem_toArray, List.getElem_cons_zero, List.getElem_cons_succ, List.setIfInBounds_toArray, List.set_cons_zero, List.set_cons_succ]
  refine wpAnyH_take (i := 4) (v := ?_) rfl (by as_aux_lemma => kernel_rfl) (by as_aux_lemma => kernel_rfl) (by as_aux_lemma => kernel_rfl) (fun _ _ _ h => h) (Or.inl ⟨by as_aux_lemma => rfl, ?yt4⟩) (by assumption) ?qt4
  case yt4 => (intro wz hSw; (try dsimp only at hSw); go_simp <;> with_reducible rfl)
  try simp only [Act.put, List.getElem_toArray, List.getElem_cons_zero, List.getElem_cons_succ, List.setIfInBounds_toArray, List.set_cons_zero, List.set_cons_succ]
  refine wpAnyH_take (i := 6) (v := ?_) rfl (by as_aux_lemma => kernel_rfl) (by as_aux_lemma => kernel_rfl) (by as_aux_lemma => kernel_rfl) (fun _ _ _ h => h) (Or.inl ⟨by as_aux_lemma => rfl, ?yt6⟩) (by assumption) ?qt6
  case yt6 => (intro wz hSw; (try dsimp only at hSw); go_simp <;> with_reducible rfl)
  try simp only [Act.put, List.getElem_toArray, List.getElem_cons_zero, List.getElem_cons_succ, List.setIfInBounds_toArray, List.set_cons_zero, List.set_cons_succ]
  refine wpAnyH_ready (rs := [5]) (by as_aux_lemma => kernel_rfl) (by simp) ?_
  refine AllReadyH.cons rfl (fun K hK => ?_) AllReadyH.nil
  go_simp
  refine (HPL.out _).mono ?_
  rintro e u1 ⟨rfl, rfl⟩
  refine hK.out _ _ (⟨(cellsE (J0D.out.at_ (ob := boxE B) (g := ge) (by simp))).2, (cellsS (J0D.out.at_ (ob := boxS (.pointer a) root) (g := w.heap.size) (by simp))).2.2⟩) (fun hHeld1 => ?_)
  clear hK K
  try simp only [Act.put, List.getElem_toArray, List.getElem_cons_zero, List.getElem_cons_succ, List.setIfInBounds_toArray, List.set_cons_zero, List.set_cons_succ]
  refine wpAnyH_ready (rs := [7]) (by as_aux_lemma => kernel_rfl) (by simp) ?_
  refine AllReadyH.cons rfl (fun K hK => ?_) AllReadyH.nil
  go_simp
  refine HCH.out.mono ?_
  rintro e u2 ⟨R, o5, hO, hlen, rfl, j5⟩
  have JB := Lib.hid j5
  have HFN := Lib.hid (psfin HSB.out j5 hO)
  clear hO hlen j5 HCH
  refine hK.out _ _ (⟨(cellsE (JB.out.at_ (ob := boxE B) (g := ge) (by simp))).2, (cellsS (JB.out.at_ (ob := boxS (.pointer a) root) (g := w.heap.size) (by simp))).2.2⟩) (fun hHeld2 => ?_)
  clear hK K
  try simp only [Act.put, List.getElem_toArray, List.getElem_cons_zero, List.getElem_cons_succ, List.setIfInBounds_toArray, List.set_cons_zero, List.set_cons_succ]
  refine wpAnyH_ready (rs := [8]) (by as_aux_lemma => kernel_rfl) (by simp) ?_
  refine AllReadyH.cons rfl (fun K hK => ?_) AllReadyH.nil
  go_simp
  refine HFN.out.mono ?_
  rintro e u3 ⟨root2, why2, zs2, o2, rfl, HE⟩
  clear HFN
  refine hK.out _ _ (⟨(cellsE (HE.out.2.2.2.2 (ge, boxE B) (by simp)).1).2, (cellsS (HE.out.2.2.2.2 (w.heap.size, boxS (.pointer a) root) (by simp)).1).2.2⟩) (fun hHeld3 => ?_)
  clear hK K
  try simp only [Act.put, List.getElem_toArray, List.getElem_cons_zero, List.getElem_cons_succ, List.setIfInBounds_toArray, List.set_cons_zero, List.set_cons_succ]
  refine wpAnyH_take (i := 9) (v := ?_) rfl (by as_aux_lemma => kernel_rfl) (by as_aux_lemma => kernel_rfl) (by as_aux_lemma => kernel_rfl) (fun _ _ _ h => h) (Or.inl ⟨by as_aux_lemma => rfl, ?yt9⟩) (by assumption) ?qt9
  case yt9 => (intro wz hSw; (try dsimp only at hSw); go_simp <;> with_reducible rfl)
  try simp only [Act.put, List.getElem_toArray, List.getElem_cons_zero, List.getElem_cons_succ, List.setIfInBounds_toArray, List.set_cons_zero, List.set_cons_succ]
  refine wpAnyH_take (i := 10) (v := ?_) rfl (by as_aux_lemma => kernel_rfl) (by as_aux_lemma => kernel_rfl) (by as_aux_lemma => kernel_rfl) (fun _ _ _ h => h) (Or.inl ⟨by as_aux_lemma => rfl, ?yt10⟩) (by assumption) ?qt10
  case yt10 => (intro wz hSw; (try dsimp only at hSw); go_simp <;> with_reducible rfl)
  try simp only [Act.put, List.getElem_toArray, List.getElem_cons_zero, List.getElem_cons_succ, List.setIfInBounds_toArray, List.set_cons_zero, List.set_cons_succ]
  refine wpAnyH_ready (rs := [11]) (by as_aux_lemma => kernel_rfl) (by simp) ?_
  refine AllReadyH.cons rfl (fun K hK => ?_) AllReadyH.nil
  refine wp_store_seq (.tmp 4) (.tmp 25) rfl (w.heap.size + 1) a none root2 0 rfl rfl (HE.out.2.2.2.2 (w.heap.size + 1, boxS (.pointer none) 0) (by simp)).1 ?_
  intro u4 hst
  have HST := Lib.hid hst
  clear hst
  refine hK.out _ _ (⟨(cellsE ((HST.out.2.2.2.2.2 ge (by have := HGE.out; omega)).trans (HE.out.2.2.2.2 (ge, boxE B) (by simp)).1)).2, (cellsS ((HST.out.2.2.2.2.2 w.heap.size (by omega)).trans (HE.out.2.2.2.2 (w.heap.size, boxS (.pointer a) root) (by simp)).1)).2.2⟩) (fun hHeld4 => ?_)
  clear hK K
  try simp only [Act.put, List.getElem_toArray, List.getElem_cons_zero, List.getElem_cons_succ]
  refine wpAnyH_take (i := 12) (v := ?_) rfl (by as_aux_lemma => kernel_rfl) (by as_aux_lemma => kernel_rfl) (by as_aux_lemma => kernel_rfl) (fun _ _ _ h => h) (Or.inl ⟨by as_aux_lemma => rfl, ?yt12⟩) (by assumption) ?qt12
  case yt12 => (intro wz hSw; (try dsimp only at hSw); go_simp <;> with_reducible rfl)
  try simp only [Act.put, List.getElem_toArray, List.getElem_cons_zero, List.getElem_cons_succ, List.setIfInBounds_toArray, List.set_cons_zero, List.set_cons_succ]
  refine wpAnyH_done (by as_aux_lemma => kernel_rfl) ?_ _
  obtain ⟨_, r0, r1⟩ := cellsS HST.out.2.2.2.2.1
  go_wp2_with fail
  exact bodyPost_ret (v := .tuple #[.agg #[.pointer a, .int .i64 root2], .int .i64 why2]) (by simp [results, Try.results15, go_sem, r0, r1]) rfl (sfin_end HE.out (gr := w.heap.size + 1) (ob := boxS (.pointer none) 0) (by simp) HST.out)
set_option maxRecDepth 100000 in
set_option maxHeartbeats 8000000 in
theorem psinsert_none {pv : Value} {o : Option Nat} {room : Nat} {zs : List Cel} {w : World} {t : Tre} {root : Int} (i : Int) (val : Int) (h : ArV w pv o room zs) (ht : Tr zs t root) (hi : i < 0 ∨ (t.size : Int) < i) :
    Calls Try.prog 14 #[.agg #[pv, .int .i64 root], .int .i64 i, .int .i64 val] w (DoneY pv 0 1 w) := by
  obtain ⟨a, rfl⟩ := h.ptr
  have hb0 : Below w.heap.size w (((w.alloc (boxS (.pointer a) root)).alloc (boxI val)).alloc (boxS (.pointer none) 0)) := (((Below.refl _ _).alloc (Nat.le_refl _) _).alloc (by simp only [World.size_alloc]; omega) _).alloc (by simp only [World.size_alloc]; omega) _
  have HB0 := Lib.hid hb0
  have HN := Lib.hid (fun (X : World) (hX : Below w.heap.size w X) => psnew (h.below hX))
  by_cases hi0 : i < 0
  · have HLN := Lib.hid fun (X : World) (hX : Below w.heap.size w X) => pslen (h.below hX) ht
    have h1 : i < 0 := hi0
    clear h ht hi hi0
    go_enter Try.func14, Try.ntmps14
    have HX : Hid (Below w.heap.size w (((w.alloc (boxS (.pointer a) root)).alloc (boxI val)).alloc (boxS (.pointer none) 0)) ∧ ((((w.alloc (boxS (.pointer a) root)).alloc (boxI val)).alloc (boxS (.pointer none) 0))).heap[w.heap.size + 2]? = some (boxS (.pointer none) 0)) := Lib.hid ⟨hb0, heap_alloc_at _ _ _ (by simp)⟩
    clear hb0 HLN
    go_wp2_with fail
    refine (HN.out _ HX.out.1).mono ?_
    rintro e w2 ⟨rfl, hb⟩
    have HS : Hid (w2.heap[w.heap.size + 2]? = some (boxS (.pointer none) 0) ∧ Below w.heap.size w w2) := Lib.hid ⟨(hb.block _ (heap_lt HX.out.2)).trans HX.out.2, HX.out.1.trans (hb.mono HX.out.1.size)⟩
    clear hb HX
    go_wp2_with (refine wpList_store_seq rfl (.tmp 6) (.tmp 19) rfl (w.heap.size + 2) a none 0 0 rfl rfl HS.out.1 ?_; intro w4 hst; have HST := Lib.hid hst; obtain ⟨_, r0, r1⟩ := cellsS hst.2.2.2.2.1; clear hst)
    exact bodyPost_ret (v := .tuple #[.agg #[.pointer a, .int .i64 0], .int .i64 1]) (by simp [results, Try.results14, go_sem, r0, r1]) rfl ⟨rfl, HST.out.below HS.out.2 (by omega)⟩
  · have HLN := Lib.hid fun (X : World) (hX : Below w.heap.size w X) => pslen (h.below hX) ht
    have h1 : ¬ i < 0 := hi0
    have h2 : (t.size : Int) < i := by omega
    clear h ht hi hi0
    go_enter Try.func14, Try.ntmps14
    go_wp2_with fail
    refine (HLN.out _ HB0.out).mono ?_
    rintro e w1 ⟨rfl, hb1⟩
    have HX : Hid (Below w.heap.size w w1 ∧ w1.heap[w.heap.size + 2]? = some (boxS (.pointer none) 0)) := Lib.hid ⟨HB0.out.trans (hb1.mono HB0.out.size), (hb1.block _ (by simp only [World.size_alloc]; omega)).trans (heap_alloc_at _ _ _ (by simp))⟩
    obtain ⟨m0, m1⟩ := (cellsS ((hb1.block w.heap.size (by simp only [World.size_alloc]; omega)).trans (heap_alloc_lt _ _ _ _ (heap_alloc_lt _ _ _ _ (heap_alloc_at _ _ _ (by simp)))))).2
    clear hb1
    clear hb0
    go_wp2_with fail
    refine (HN.out _ HX.out.1).mono ?_
    rintro e w2 ⟨rfl, hb⟩
    have HS : Hid (w2.heap[w.heap.size + 2]? = some (boxS (.pointer none) 0) ∧ Below w.heap.size w w2) := Lib.hid ⟨(hb.block _ (heap_lt HX.out.2)).trans HX.out.2, HX.out.1.trans (hb.mono HX.out.1.size)⟩
    clear hb HX
    go_wp2_with (refine wpList_store_seq rfl (.tmp 6) (.tmp 19) rfl (w.heap.size + 2) a none 0 0 rfl rfl HS.out.1 ?_; intro w4 hst; have HST := Lib.hid hst; obtain ⟨_, r0, r1⟩ := cellsS hst.2.2.2.2.1; clear hst)
    exact bodyPost_ret (v := .tuple #[.agg #[.pointer a, .int .i64 0], .int .i64 1]) (by simp [results, Try.results14, go_sem, r0, r1]) rfl ⟨rfl, HST.out.below HS.out.2 (by omega)⟩
set_option maxRecDepth 100000 in
set_option maxHeartbeats 8000000 in
theorem psset_none {pv : Value} {o : Option Nat} {room : Nat} {zs : List Cel} {w : World} {t : Tre} {root : Int} (i : Int) (val : Int) (h : ArV w pv o room zs) (ht : Tr zs t root) (hi : ¬ (0 ≤ i ∧ i < (t.size : Int))) :
    Calls Try.prog 34 #[.agg #[pv, .int .i64 root], .int .i64 i, .int .i64 val] w (DoneY pv 0 1 w) := by
  obtain ⟨a, rfl⟩ := h.ptr
  have hb0 : Below w.heap.size w (((w.alloc (boxS (.pointer a) root)).alloc (boxI val)).alloc (boxS (.pointer none) 0)) := (((Below.refl _ _).alloc (Nat.le_refl _) _).alloc (by simp only [World.size_alloc]; omega) _).alloc (by simp only [World.size_alloc]; omega) _
  have HB0 := Lib.hid hb0
  have HN := Lib.hid (fun (X : World) (hX : Below w.heap.size w X) => psnew (h.below hX))
  have HLN := Lib.hid fun (X : World) (hX : Below w.heap.size w X) => psnoplace i (h.below hX) ht hi
  clear h ht hi 
  go_enter Try.func34, Try.ntmps34
  go_wp2_with fail
  refine (HLN.out _ HB0.out).mono ?_
  rintro e w1 ⟨rfl, hb1⟩
  have HX : Hid (Below w.heap.size w w1 ∧ w1.heap[w.heap.size + 2]? = some (boxS (.pointer none) 0)) := Lib.hid ⟨HB0.out.trans (hb1.mono HB0.out.size), (hb1.block _ (by simp only [World.size_alloc]; omega)).trans (heap_alloc_at _ _ _ (by simp))⟩
  obtain ⟨m0, m1⟩ := (cellsS ((hb1.block w.heap.size (by simp only [World.size_alloc]; omega)).trans (heap_alloc_lt _ _ _ _ (heap_alloc_lt _ _ _ _ (heap_alloc_at _ _ _ (by simp)))))).2
  clear hb1
  clear hb0
  go_wp2_with fail
  refine (HN.out _ HX.out.1).mono ?_
  rintro e w2 ⟨rfl, hb⟩
  have HS : Hid (w2.heap[w.heap.size + 2]? = some (boxS (.pointer none) 0) ∧ Below w.heap.size w w2) := Lib.hid ⟨(hb.block _ (heap_lt HX.out.2)).trans HX.out.2, HX.out.1.trans (hb.mono HX.out.1.size)⟩
  clear hb HX
  go_wp2_with (refine wpList_store_seq rfl (.tmp 6) (.tmp 15) rfl (w.heap.size + 2) a none 0 0 rfl rfl HS.out.1 ?_; intro w4 hst; have HST := Lib.hid hst; obtain ⟨_, r0, r1⟩ := cellsS hst.2.2.2.2.1; clear hst)
  exact bodyPost_ret (v := .tuple #[.agg #[.pointer a, .int .i64 0], .int .i64 1]) (by simp [results, Try.results34, go_sem, r0, r1]) rfl ⟨rfl, HST.out.below HS.out.2 (by omega)⟩
set_option maxRecDepth 100000 in
set_option maxHeartbeats 8000000 in
theorem psdel_none {pv : Value} {o : Option Nat} {room : Nat} {zs : List Cel} {w : World} {t : Tre} {root : Int} (i : Int) (h : ArV w pv o room zs) (ht : Tr zs t root) (hi : ¬ (0 ≤ i ∧ i < (t.size : Int))) :
    Calls Try.prog 15 #[.agg #[pv, .int .i64 root], .int .i64 i] w (DoneY pv 0 1 w) := by
  obtain ⟨a, rfl⟩ := h.ptr
  have hb0 : Below w.heap.size w ((w.alloc (boxS (.pointer a) root)).alloc (boxS (.pointer none) 0)) := ((Below.refl _ _).alloc (Nat.le_refl _) _).alloc (by simp only [World.size_alloc]; omega) _
  have HB0 := Lib.hid hb0
  have HN := Lib.hid (fun (X : World) (hX : Below w.heap.size w X) => psnew (h.below hX))
  have HLN := Lib.hid fun (X : World) (hX : Below w.heap.size w X) => psnoplace i (h.below hX) ht hi
  clear h ht hi 
  go_enter Try.func15, Try.ntmps15
  go_wp2_with fail
  refine (HLN.out _ HB0.out).mono ?_
  rintro e w1 ⟨rfl, hb1⟩
  have HX : Hid (Below w.heap.size w w1 ∧ w1.heap[w.heap.size + 1]? = some (boxS (.pointer none) 0)) := Lib.hid ⟨HB0.out.trans (hb1.mono HB0.out.size), (hb1.block _ (by simp only [World.size_alloc]; omega)).trans (heap_alloc_at _ _ _ (by simp))⟩
  obtain ⟨m0, m1⟩ := (cellsS ((hb1.block w.heap.size (by simp only [World.size_alloc]; omega)).trans (heap_alloc_lt _ _ _ _ (heap_alloc_at _ _ _ (by simp))))).2
  clear hb1
  clear hb0
  go_wp2_with fail
  refine (HN.out _ HX.out.1).mono ?_
  rintro e w2 ⟨rfl, hb⟩
  have HS : Hid (w2.heap[w.heap.size + 1]? = some (boxS (.pointer none) 0) ∧ Below w.heap.size w w2) := Lib.hid ⟨(hb.block _ (heap_lt HX.out.2)).trans HX.out.2, HX.out.1.trans (hb.mono HX.out.1.size)⟩
  clear hb HX
  go_wp2_with (refine wpList_store_seq rfl (.tmp 4) (.tmp 13) rfl (w.heap.size + 1) a none 0 0 rfl rfl HS.out.1 ?_; intro w4 hst; have HST := Lib.hid hst; obtain ⟨_, r0, r1⟩ := cellsS hst.2.2.2.2.1; clear hst)
  exact bodyPost_ret (v := .tuple #[.agg #[.pointer a, .int .i64 0], .int .i64 1]) (by simp [results, Try.results15, go_sem, r0, r1]) rfl ⟨rfl, HST.out.below HS.out.2 (by omega)⟩
end Go.Proofs.Ytpbkclciipmonaa.F
