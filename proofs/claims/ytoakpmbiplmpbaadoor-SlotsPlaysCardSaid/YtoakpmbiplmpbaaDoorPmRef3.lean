/-
  Contract of the document's own answer on lists of pairs: Put. Not a statement of the seat.
-/
import Derived.Test.YtoakpmbiplmpbaaDoorPmRef1
namespace Go.Proofs.YtoakpmbiplmpbaaDoor.F
open Go.ChangeShapes Go.WideShapes Go.ChangeAt Go.RowKit Base
/-- One pair more is looked at, while another one is put among them. -/
def putStep (key val : Int) (s : List Pai × Bool) (p : Pai) : List Pai × Bool :=
  if (p.k == key) = true then (if (!s.2 && decide (key ≤ p.k)) = true then (s.1 ++ [⟨key, val⟩], true) else s)
  else (if (!s.2 && decide (key ≤ p.k)) = true then (s.1 ++ [⟨key, val⟩] ++ [p], true) else (s.1 ++ [p], s.2))
def putF (key val : Int) (l : List Pai) : List Pai × Bool := l.foldl (putStep key val) ([], false)
/-- The pairs with one put. -/
def putL (key val : Int) (l : List Pai) : List Pai := if (putF key val l).2 = true then (putF key val l).1 else (putF key val l).1 ++ [⟨key, val⟩]
theorem putF_snoc (key val : Int) (l : List Pai) (p : Pai) : putF key val (l ++ [p]) = putStep key val (putF key val l) p := by unfold putF; rw [List.foldl_append]; rfl
theorem putStep_len (key val : Int) (s : List Pai × Bool) (p : Pai) : (putStep key val s p).1.length ≤ s.1.length + 2 := by
  unfold putStep
  split <;> split <;> simp
theorem putF_len (key val : Int) (l : List Pai) : ∀ k, k ≤ l.length → (putF key val (l.take k)).1.length ≤ 2 * k
  | 0, _ => by simp [putF]
  | k + 1, h => by
    rw [pai_take (by omega), putF_snoc]
    have h1 := putStep_len key val (putF key val (l.take k)) (l.getD k Pai.zero)
    have h2 := putF_len key val l k (by omega)
    omega
/-- What a call that tells a new list of pairs leaves. -/
def PaiNew (zs : List Pai) (w : World) (e : Ending) (w' : World) : Prop := ∃ v, e = .returned v ∧ OwnPai w.heap.size w' v zs ∧ Below w.heap.size w w'
theorem pai_box {w : World} {g : Nat} {x y : Int} (h : w.heap[g]? = some (.cells #[.int .i64 x, .int .i64 y] 62)) : w.cell? ⟨g, 0, none⟩ = some (.int .i64 x) ∧ w.cell? ⟨g, 1, none⟩ = some (.int .i64 y) := by simp [World.cell?, h]
/-- What an append to a slice that the call has made so far gives. -/
theorem app_step {w wr X w2 : World} {v v2 : Value} {zs ys : List Pai} (hb : Below w.heap.size w wr) (ho : OwnPai w.heap.size wr v zs) (hX : Below wr.heap.size wr X) (h2 : OwnPai w.heap.size w2 v2 ys) (hg : X.grownBy w2 v.ownBlock) : OwnPai w.heap.size w2 v2 ys ∧ Below w.heap.size w w2 ∧ ∀ g, wr.heap.size ≤ g → g < X.heap.size → w2.heap[g]? = X.heap[g]? :=
  ⟨h2, (hb.trans (hX.mono hb.size)).grown hg (Nat.le_trans hb.size hX.size) (fun k hk => (ho.base k hk).1), fun g h3 h4 => hg.block g h4 (fun e => by have := (ho.base g e.symm).2; omega)⟩
set_option maxRecDepth 100000 in
set_option maxHeartbeats 4000000 in
theorem put_ref {base : Nat} (v : Value) (l : List Pai) (key val : Int) (w : World) (h : Pais base w v l) (hl : l.length ≤ 100000) : Calls Tryd.prog 62 #[v, .int .i64 key, .int .i64 val] w (PaiNew (putL key val l) w) := by
  obtain ⟨p, c, rfl, _, hc⟩ := h.open_
  have HC := Lib.hid hc
  have HS : Hid (∀ k, k < l.length → putF key val (l.take (k + 1)) = putStep key val (putF key val (l.take k)) (l.getD k Pai.zero)) := Lib.hid fun k hk => by rw [pai_take hk, putF_snoc]
  have HL : Hid (∀ k, k ≤ l.length → (putF key val (l.take k)).1.length ≤ 2 * k) := Lib.hid (putF_len key val l)
  have HF : Hid (putL key val (l.take l.length) = putL key val l) := Lib.hid (by rw [List.take_length])
  have H0 : Hid ((putF key val (l.take 0)) = ([], false) ∧ OwnPai w.heap.size w (.slice none 0 0) [] ∧ Below w.heap.size w w) := Lib.hid ⟨rfl, OwnPai.nil _ _, Below.refl _ _⟩
  rw [← HF.out]
  clear h hc HF
  go_enter Tryd.func62, Tryd.ntmps62
  go_wp2_with fail
  go_loopw [7, 8, 10, 13] (fun s7 s8 _ s13 wr => ∃ (k : Nat) (v : Value) (zs : List Pai) (d : Bool), s13 = .int .i64 (k : Int) ∧ v = s7 ∧ k ≤ l.length ∧ s8 = .bool d ∧ Hid (putF key val (l.take k) = (zs, d) ∧ OwnPai w.heap.size wr v zs ∧ Below w.heap.size w wr)) (fun _ _ _ s13 _ => l.length - (intOf s13).toNat)
  case atStart => exact ⟨0, _, [], false, rfl, rfl, Nat.zero_le _, rfl, H0⟩
  case round =>
    obtain ⟨k, v, zs, d, rfl, rfl, hk, rfl, HO⟩ := hrel
    have hzl : zs.length ≤ 200000 := by
      have h1 := HL.out k hk
      rw [HO.out.1] at h1
      have : zs.length ≤ 2 * k := h1
      omega
    by_cases hlt : k < l.length
    · obtain ⟨g', o', rfl, _, hg, c0, c1⟩ := HC.out k hlt
      have c0 := (HO.out.2.2.cell (p := ⟨g', _, none⟩) hg).trans c0
      have c1 := (HO.out.2.2.cell (p := ⟨g', _, none⟩) hg).trans c1
      have hs := HS.out k hlt
      rw [HO.out.1] at hs
      generalize l.getD k Pai.zero = x at c0 c1 hs
      obtain ⟨xk, xv⟩ := x
      simp only at c0 c1
      have HST := Lib.hid hs
      have hbz := HO.out.2.2.size
      clear hs hg
      cases d
      · by_cases hle : key ≤ xk
        · by_cases he : xk = key
          · have HP : Hid (putF key val (l.take (k + 1)) = (zs ++ [⟨key, val⟩], true)) := Lib.hid (by rw [HST.out]; unfold putStep; simp [he])
            have he2 : key = xk := he.symm
            clear HST he
            subst he2
            have he1 : (key != key) = false := by simp
            go_wp2_with (at_builtin; refine append_pais rfl (.tmp 25) (.tmp 29) rfl (Nat.le_trans hbz (by simp; omega)) (HO.out.2.1.below (by go_grown)) rfl (pai_at ⟨key, val⟩ (heap_alloc_at _ _ _ (by simp))) rfl (by simp; omega) ?_; intro v2 w2 ho hg2 _; have HA := Lib.hid (app_step HO.out.2.2 HO.out.2.1 (by go_grown) ho hg2); have hbx : w2.heap[wr.heap.size]? = some (.cells #[.int .i64 key, .int .i64 xv] 62) := (HA.out.2.2 wr.heap.size (Nat.le_refl _) (by simp; omega)).trans (heap_alloc_lt _ _ _ _ (heap_alloc_at _ _ _ rfl)); obtain ⟨e0, e1⟩ := pai_box hbx; have hs2 := HA.out.2.1.size; clear ho hg2 hbx)
            have HO2 : Hid (putF key val (l.take (k + 1)) = (zs ++ [⟨key, val⟩], true) ∧ OwnPai w.heap.size w2 v2 (zs ++ [⟨key, val⟩]) ∧ Below w.heap.size w w2) := Lib.hid ⟨HP.out, HA.out.1, HA.out.2.1⟩
            clear HA HP HO
            go_wp2_with fail
            go_roundw
            case rel => exact ⟨k + 1, v2, _, true, by go_num, rfl, by omega, rfl, HO2⟩
            case measure => simp [intOf]; omega
          · have HP : Hid (putF key val (l.take (k + 1)) = (zs ++ [⟨key, val⟩] ++ [⟨xk, xv⟩], true)) := Lib.hid (by rw [HST.out]; unfold putStep; simp [he, hle])
            have he1 : (xk != key) = true := by rw [bne_iff_ne]; exact he
            clear HST he
            go_wp2_with (first | (at_builtin; refine append_pais rfl (.tmp 25) (.tmp 29) rfl (Nat.le_trans hbz (by simp; omega)) (HO.out.2.1.below (by go_grown)) rfl (pai_at ⟨key, val⟩ (heap_alloc_at _ _ _ (by simp))) rfl (by simp; omega) ?_; intro v2 w2 ho hg2 _; have HA := Lib.hid (app_step HO.out.2.2 HO.out.2.1 (by go_grown) ho hg2); have hbx : w2.heap[wr.heap.size]? = some (.cells #[.int .i64 xk, .int .i64 xv] 62) := (HA.out.2.2 wr.heap.size (Nat.le_refl _) (by simp; omega)).trans (heap_alloc_lt _ _ _ _ (heap_alloc_at _ _ _ rfl)); obtain ⟨e0, e1⟩ := pai_box hbx; have hs2 := HA.out.2.1.size; clear ho hg2 hbx) | (at_builtin; refine append_pais rfl (.tmp 35) (.tmp 37) rfl (Nat.le_trans hs2 (by simp)) (HA.out.1.below (by go_grown)) rfl (pai_at ⟨xk, xv⟩ (heap_alloc_at _ _ _ (by simp))) rfl (by simp; omega) ?_; intro v3 w3 ho hg2 _))
            have HA3 := Lib.hid (app_step HA.out.2.1 HA.out.1 (by go_grown) ho hg2)
            have HO2 : Hid (putF key val (l.take (k + 1)) = (zs ++ [⟨key, val⟩] ++ [⟨xk, xv⟩], true) ∧ OwnPai w.heap.size w3 v3 (zs ++ [⟨key, val⟩] ++ [⟨xk, xv⟩]) ∧ Below w.heap.size w w3) := Lib.hid ⟨HP.out, HA3.out.1, HA3.out.2.1⟩
            clear ho hg2 HA HA3 HP HO
            go_wp2_with fail
            go_roundw
            case rel => exact ⟨k + 1, v3, _, true, by go_num, rfl, by omega, rfl, HO2⟩
            case measure => simp [intOf]; omega
        · have he : ¬ xk = key := by omega
          have he1 : (xk != key) = true := by rw [bne_iff_ne]; exact he
          have HP : Hid (putF key val (l.take (k + 1)) = (zs ++ [⟨xk, xv⟩], false)) := Lib.hid (by rw [HST.out]; unfold putStep; simp [he, hle])
          have hle2 : xk < key := by omega
          have hle3 : decide (key ≤ xk) = false := by rw [decide_eq_false_iff_not]; exact hle
          clear HST he hle
          go_wp2_with (at_builtin; refine append_pais rfl (.tmp 35) (.tmp 37) rfl (Nat.le_trans hbz (by simp; omega)) (HO.out.2.1.below (by go_grown)) rfl (pai_at ⟨xk, xv⟩ (heap_alloc_at _ _ _ (by simp))) rfl (by simp; omega) ?_; intro v2 w2 ho hg2 _)
          have HA := Lib.hid (app_step HO.out.2.2 HO.out.2.1 (by go_grown) ho hg2)
          have HO2 : Hid (putF key val (l.take (k + 1)) = (zs ++ [⟨xk, xv⟩], false) ∧ OwnPai w.heap.size w2 v2 (zs ++ [⟨xk, xv⟩]) ∧ Below w.heap.size w w2) := Lib.hid ⟨HP.out, HA.out.1, HA.out.2.1⟩
          clear ho hg2 HA HP HO
          go_wp2_with fail
          go_roundw
          case rel => exact ⟨k + 1, v2, _, false, by go_num, rfl, by omega, rfl, HO2⟩
          case measure => simp [intOf]; omega
      · by_cases he : xk = key
        · have HP : Hid (putF key val (l.take (k + 1)) = (zs, true)) := Lib.hid (by rw [HST.out]; unfold putStep; simp [he])
          have he1 : (xk != key) = false := by rw [bne_eq_false_iff_eq]; exact he
          have HO2 : Hid (∀ X, Below wr.heap.size wr X → putF key val (l.take (k + 1)) = (zs, true) ∧ OwnPai w.heap.size X v zs ∧ Below w.heap.size w X) := Lib.hid fun X hX => ⟨HP.out, HO.out.2.1.below hX, HO.out.2.2.trans (hX.mono HO.out.2.2.size)⟩
          clear HST he HP HO
          go_wp2_with fail
          go_roundw
          case rel => exact ⟨k + 1, v, _, true, by go_num, rfl, by omega, rfl, Lib.hid (HO2.out _ (by go_grown))⟩
          case measure => simp [intOf]; omega
        · have HP : Hid (putF key val (l.take (k + 1)) = (zs ++ [⟨xk, xv⟩], true)) := Lib.hid (by rw [HST.out]; unfold putStep; simp [he])
          have he1 : (xk != key) = true := by rw [bne_iff_ne]; exact he
          clear HST he
          go_wp2_with (at_builtin; refine append_pais rfl (.tmp 35) (.tmp 37) rfl (Nat.le_trans hbz (by simp; omega)) (HO.out.2.1.below (by go_grown)) rfl (pai_at ⟨xk, xv⟩ (heap_alloc_at _ _ _ (by simp))) rfl (by simp; omega) ?_; intro v2 w2 ho hg2 _)
          have HA := Lib.hid (app_step HO.out.2.2 HO.out.2.1 (by go_grown) ho hg2)
          have HO2 : Hid (putF key val (l.take (k + 1)) = (zs ++ [⟨xk, xv⟩], true) ∧ OwnPai w.heap.size w2 v2 (zs ++ [⟨xk, xv⟩]) ∧ Below w.heap.size w w2) := Lib.hid ⟨HP.out, HA.out.1, HA.out.2.1⟩
          clear ho hg2 HA HP HO
          go_wp2_with fail
          go_roundw
          case rel => exact ⟨k + 1, v2, _, true, by go_num, rfl, by omega, rfl, HO2⟩
          case measure => simp [intOf]; omega
    · have e : k = l.length := by omega
      subst e
      clear HC HS HL
      have HE := HO.out.1
      have hbz0 := HO.out.2.2.size
      cases d
      · have HQ : Hid (PaiNew (putL key val (l.take l.length)) w = PaiNew (zs ++ [⟨key, val⟩]) w) := Lib.hid (by unfold putL; rw [HE]; rfl)
        clear HE
        go_wp2_with (at_builtin; refine append_pais rfl (.tmp 42) (.tmp 46) rfl (Nat.le_trans hbz0 (by simp)) (HO.out.2.1.below (by go_grown)) rfl (pai_at ⟨key, val⟩ (heap_alloc_at _ _ _ (by simp))) rfl (by simp; omega) ?_; intro v2 w2 ho hg2 _)
        have HO2 := Lib.hid (app_step HO.out.2.2 HO.out.2.1 (by go_grown) ho hg2)
        clear ho hg2
        go_wp2
        go_ret
        rw [HQ.out]
        exact ⟨_, rfl, HO2.out.1, HO2.out.2.1⟩
      · have HQ : Hid (PaiNew (putL key val (l.take l.length)) w = PaiNew zs w) := Lib.hid (by unfold putL; rw [HE]; rfl)
        clear HE
        go_wp2
        go_ret
        rw [HQ.out]
        exact ⟨_, rfl, HO.out.2.1, HO.out.2.2⟩
end Go.Proofs.YtoakpmbiplmpbaaDoor.F
