/-
  Contract of maps in an arena: At. Not a statement of the seat.
-/
import Derived.Test.YtpmimngngehmlaaPmGet
namespace Go.Proofs.Ytpmimngngehmlaa.F
open Go.ChangeShapes Go.WideShapes Go.ChangeAt Go.RowKit Base
set_option maxRecDepth 100000 in
theorem wpList_store_pai {ops : Array Oper} {rest : List Oper} {o : Oper} {a : Act} {w : World} {Q : Exit → Act → World → Prop} (hgd : o.guard = none) (x y : Operand) (ho : o.op = .store 52 x y)
    (g : Nat) (c c0 : Pai) (hx : a.eval x = .pointer (some ⟨g, 0, none⟩)) (hy : a.eval y = .agg #[.int .i64 c.k, .int .i64 c.v]) (hg : w.heap[g]? = some (boxP c0))
    (h : ∀ w', Stored w g (boxP c) w' → wpList Try.prog ops Q rest (a.put o.dst undef) w') : wpList Try.prog ops Q (o :: rest) a w :=
  wpList_store_row hgd _ x y ho g _ hx hy 52 _ hg (by kernel_rfl) rfl (by simp [Value.oneCell']) (h _ (stored_setRow _ _ _ _ _ hg))
/-- What At leaves. -/
def PaiBoolM (p : Pai) (is : Bool) (w : World) (e : Ending) (w' : World) : Prop := e = .returned (.tuple #[.agg #[.int .i64 p.k, .int .i64 p.v], .bool is]) ∧ Below w.heap.size w w'
set_option maxHeartbeats 8000000 in
set_option maxRecDepth 100000 in
theorem pmat {pv : Value} {o : Option Nat} {room : Nat} {zs : List Cel} {w : World} {t : Tre} {root : Int} (n : Int) (h : ArV w pv o room zs) (ht : Tr zs t root) (hs : t.size ≤ 1000000) (hn : -9223372036854775808 ≤ n ∧ n ≤ 9223372036854775807) : Calls Try.prog 24 #[.agg #[pv, .int .i64 root], .int .i64 n] w (PaiBoolM (t.nth n).1 (t.nth n).2 w) := by
  obtain ⟨a, rfl⟩ := h.ptr
  have HI : Hid (∀ X, Below ((w.alloc (boxM (.pointer a) root)).alloc (boxP ⟨0, 0⟩)).heap.size ((w.alloc (boxM (.pointer a) root)).alloc (boxP ⟨0, 0⟩)) X → (X.cell? ⟨w.heap.size, 0, none⟩ = some (.pointer a) ∧ X.cell? ⟨w.heap.size, 1, none⟩ = some (.int .i64 root)) ∧ ArV X (.pointer a) o room zs ∧ w.heap.size + 1 < X.heap.size ∧ Below w.heap.size w X ∧ X.heap[w.heap.size + 1]? = some (boxP ⟨0, 0⟩)) := Lib.hid fun X hX => by
    have hb : Below w.heap.size w ((w.alloc (boxM (.pointer a) root)).alloc (boxP ⟨0, 0⟩)) := ((Below.refl _ _).alloc (Nat.le_refl _) _).alloc (by simp) _
    have hm := (hX.block w.heap.size (by simp; omega)).trans (heap_alloc_lt _ _ _ _ (heap_alloc_at _ _ _ rfl))
    have hr : X.heap[w.heap.size + 1]? = some (boxP ⟨0, 0⟩) := (hX.block (w.heap.size + 1) (by simp)).trans (heap_alloc_at _ _ _ (by simp))
    exact ⟨(cellsM hm).2, (h.below hb).below hX, heap_lt hr, hb.trans (hX.mono hb.size), hr⟩
  have HK := Lib.hid h.bk
  have HT := Lib.hid ht
  have hle := h.le
  obtain ⟨⟨rk, rv⟩, rb, hres⟩ : ∃ rp rb, t.nth n = (rp, rb) := ⟨_, _, rfl⟩
  rw [hres]
  have HR := Lib.hid hres
  have HSZ := Lib.hid hs
  have hf := fld_s
  clear h ht hres hs
  go_enter Try.func24, Try.ntmps24
  go_wp2_with fail
  go_loopw [1, 6] (fun s1 s6 wr => ∃ (i : Int) (m : Int) (t' : Tre), s6 = .int .i64 i ∧ s1 = .int .i64 m ∧ (-9223372036854775808 ≤ m ∧ m ≤ 9223372036854775807) ∧ 0 ≤ i ∧ Hid (Tr zs t' i ∧ t'.nth m = (⟨rk, rv⟩, rb) ∧ t'.size ≤ 1000000 ∧ Below ((w.alloc (boxM (.pointer a) root)).alloc (boxP ⟨0, 0⟩)).heap.size ((w.alloc (boxM (.pointer a) root)).alloc (boxP ⟨0, 0⟩)) wr)) (fun _ s6 _ => (intOf s6).toNat)
  case atStart => exact ⟨root, n, t, rfl, rfl, hn, HT.out.le.1, Lib.hid ⟨HT.out, HR.out, HSZ.out, Below.refl _ _⟩⟩
  case round =>
    obtain ⟨i, m, t', rfl, rfl, hm, hi0, J⟩ := hrel
    obtain ⟨⟨m0, m1⟩, hA, hwl, hBl, hrb⟩ := HI.out _ J.out.2.2.2
    have hwl3 : w.heap.size < wr.heap.size := by omega
    have HA := Lib.hid hA
    have HBl := Lib.hid hBl
    have HRB := Lib.hid hrb
    clear hA hBl hrb
    cases t' with
    | nil =>
      have hi : i = 0 := J.out.1
      have hr : ((⟨rk, rv⟩ : Pai), rb) = (Pai.zero, false) := J.out.2.1.symm
      injection hr with h1 h2
      injection h1 with h1 h3
      subst hi h1 h2 h3
      clear m0 m1
      go_wp2_with (refine wpList_store_pai rfl (.tmp 4) (.tmp 39) rfl (w.heap.size + 1) ⟨0, 0⟩ ⟨0, 0⟩ rfl rfl HRB.out ?_; intro w4 hst; have HST := Lib.hid hst; obtain ⟨_, r0, r1⟩ := cellsP hst.2.2.2.2.1; clear hst)
      exact bodyPost_ret (v := .tuple #[.agg #[.int .i64 0, .int .i64 0], .bool false]) (by simp [results, Try.results24, go_sem, r0, r1]) rfl ⟨rfl, HST.out.below HBl.out (by omega)⟩
    | node l k v r =>
      obtain ⟨hi, ia, ib, hcel, hl, hr⟩ := J.out.1
      have hdn := Tr.down HK.out hi hcel
      have hHC := pmcell root i HA.out
      rw [hcel] at hHC
      have HC := Lib.hid hHC
      have hia := hl.le.1
      have hib := hr.le.1
      have HL := Lib.hid hl
      have HRR := Lib.hid hr
      have HLK := Lib.hid (show (if m < (l.size : Int) then l.nth m else if (l.size : Int) < m then r.nth (m - ((l.size : Int) + 1)) else (⟨k, v⟩, true)) = (⟨rk, rv⟩, rb) from J.out.2.1)
      have HSS := Lib.hid (show l.size + 1 + r.size ≤ 1000000 from J.out.2.2.1)
      have hnz : (i == 0) = false := by rw [beq_eq_false_iff_ne]; omega
      generalize ((Tre.node l k v r).size : Int) = cs at HC
      generalize ((Tre.node l k v r).high : Int) = ch at HC
      clear hcel hl hr hHC
      go_wp2_with fail
      refine HC.out.mono ?_
      rintro e w1 ⟨rfl, hb⟩
      have J10 := Lib.hid (J.out.2.2.2.trans (hb.mono J.out.2.2.2.size))
      have J1 := Lib.hid (J10.out.alloc J10.out.size (boxC ⟨ia, ib, k, v, cs, ch⟩))
      clear hb HC m0 m1 hwl
      obtain ⟨⟨m0, m1⟩, _, hwl, _⟩ := HI.out _ J10.out
      have hwl2 : w.heap.size < w1.heap.size := by omega
      have hsl : (celAt zs ia).s = (l.size : Int) := HL.out.root.1
      have HC2 := Lib.hid (pmcell root ia (HI.out _ J1.out).2.1)
      have hsb := HSS.out
      generalize celAt zs ia = cx at hsl HC2
      obtain ⟨x1, x2, x3, x4, x5, x6⟩ := cx
      simp only at hsl
      subst hsl
      go_wp2_with fail
      refine HC2.out.mono ?_
      rintro e w2 ⟨rfl, hb⟩
      have J2 := Lib.hid (J1.out.trans (hb.mono J1.out.size))
      have hbx : w2.heap[w1.heap.size]? = some (boxC ⟨ia, ib, k, v, cs, ch⟩) := (hb.block _ (by simp)).trans (heap_alloc_at _ _ _ rfl)
      obtain ⟨hgx, c0, c1, c2, c3, c4, c5⟩ := cellsC hbx
      clear hb HC2 hbx m0 m1
      rcases (show m < (l.size : Int) ∨ (l.size : Int) < m ∨ m = (l.size : Int) by omega) with hk | hk | hk
      · have HN2 : Hid (l.nth m = (⟨rk, rv⟩, rb)) := Lib.hid (by have h := HLK.out; rwa [if_pos hk] at h)
        go_wp2_with fail
        go_roundw
        case rel => exact ⟨ia, m, l, rfl, rfl, hm, hia, Lib.hid ⟨HL.out, HN2.out, by omega, J2.out⟩⟩
        case measure => simp [intOf]; omega
      · have HN2 : Hid (r.nth (m - ((l.size : Int) + 1)) = (⟨rk, rv⟩, rb)) := Lib.hid (by have h := HLK.out; rwa [if_neg (by omega), if_pos hk] at h)
        have hk1 : (l.size : Int) ≤ m := by omega
        go_wp2_with fail
        go_roundw
        case rel => exact ⟨ib, m - ((l.size : Int) + 1), r, rfl, by go_num, by omega, hib, Lib.hid ⟨HRR.out, HN2.out, by omega, J2.out⟩⟩
        case measure => simp [intOf]; omega
      · have hn2 : ((⟨k, v⟩ : Pai), true) = ((⟨rk, rv⟩ : Pai), rb) := by have h := HLK.out; rwa [if_neg (by omega), if_neg (by omega)] at h
        injection hn2 with h1 h2
        injection h1 with h1 h3
        subst h1 h2 h3
        subst hk
        have HRB2 := Lib.hid (HI.out _ J2.out).2.2.2
        go_wp2_with fail
        refine (pmpair ⟨ia, ib, k, v, cs, ch⟩ _).mono ?_
        rintro e w3 ⟨rfl, hb⟩
        have HRB3 : Hid (w3.heap[w.heap.size + 1]? = some (boxP ⟨0, 0⟩) ∧ Below w.heap.size w w3) := Lib.hid ⟨(hb.block _ (heap_lt HRB2.out.2)).trans HRB2.out.2, HRB2.out.1.trans (hb.mono HRB2.out.1.size)⟩
        clear hb c0 c1 c2 c3 c4 c5 hgx
        go_wp2_with (refine wpList_store_pai rfl (.tmp 4) (.tmp 22) rfl (w.heap.size + 1) ⟨k, v⟩ ⟨0, 0⟩ rfl rfl HRB3.out.1 ?_; intro w4 hst; have HST := Lib.hid hst; obtain ⟨_, r0, r1⟩ := cellsP hst.2.2.2.2.1; clear hst)
        exact bodyPost_ret (v := .tuple #[.agg #[.int .i64 k, .int .i64 v], .bool true]) (by simp [results, Try.results24, go_sem, r0, r1]) rfl ⟨rfl, HST.out.below HRB3.out.2 (by omega)⟩
end Go.Proofs.Ytpmimngngehmlaa.F
