/-
  Closures: contracts of the document's Count and Drop. Not a statement of the seat.
-/
import Derived.Test.YtakgepdlninnhaaDoorHead2
import Derived.Test.YtakgepdlninnhaaDoorFrame
import Derived.Deep.DeepCutAuto
namespace Go.Proofs.YtakgepdlninnhaaDoor.Cs
open Go.ChangeShapes Go.WideShapes Go.ChangeAt Go.RowKit Base F
/-- How often a pair is there. -/
def cntP (l : List Pai) (u v : Int) : Nat := (l.filter fun p => Pai.beq p ⟨u, v⟩).length
/-- Without one of them, once. -/
def dropP : List Pai → Int → Int → List Pai
  | [], _, _ => []
  | p :: l, u, v => if Pai.beq p ⟨u, v⟩ then l else p :: dropP l u v
theorem cntP_snoc (l : List Pai) (p : Pai) (u v : Int) : cntP (l ++ [p]) u v = cntP l u v + (if Pai.beq p ⟨u, v⟩ then 1 else 0) := by
  unfold cntP
  rw [List.filter_append, List.length_append]
  congr 1
  cases e : Pai.beq p ⟨u, v⟩ <;> simp [e]
theorem cntP_le (l : List Pai) (u v : Int) : cntP l u v ≤ l.length := List.length_filter_le _ _
theorem take_next {l : List Pai} {i : Nat} (h : i < l.length) : l.take (i + 1) = l.take i ++ [l.getD i Pai.zero] := by
  rw [List.take_succ_eq_append_getElem h]
  simp [List.getD_eq_getElem?_getD, h]
set_option maxRecDepth 100000 in
theorem rcount_any {base : Nat} {pv : Value} {l : List Pai} (w : World) (h : Pais base w pv l) (hl : l.length ≤ 100000) (u v : Int) : Calls Tryd.prog 15 #[pv, .int .i64 u, .int .i64 v] w fun e w' => e = .returned (.int .i64 (cntP l u v : Nat)) ∧ Below w.heap.size w w' := by
  obtain ⟨p, c, rfl, hlm, hc⟩ := h.open_
  have HT := Lib.hid hc
  have HL := Lib.hid hl
  have hli : (l.length : Int) ≤ 100000 := by omega
  clear h hc
  go_enter Tryd.func15, Tryd.ntmps15
  go_wp2_with fail
  go_loopw [7, 12] (fun s7 s12 wr => ∃ (i z : Nat), s12 = .int .i64 (i : Int) ∧ s7 = .int .i64 (z : Int) ∧ i ≤ l.length ∧ z ≤ 100000 ∧ Hid (z = cntP (l.take i) u v ∧ Below w.heap.size w wr)) (fun _ s12 _ => l.length - (intOf s12).toNat)
  case atStart => exact ⟨0, 0, rfl, rfl, Nat.zero_le _, Nat.zero_le _, Lib.hid ⟨by simp [cntP], Below.refl _ _⟩⟩
  case round =>
    obtain ⟨i, z, rfl, rfl, hi, hz, HI⟩ := hrel
    by_cases hlt : i < l.length
    · obtain ⟨g, o, rfl, _, hg, c0, c1⟩ := HT.out i hlt
      have hbw := HI.out.2
      have c0 := (hbw.cell (p := ⟨g, _, none⟩) hg).trans c0
      have c1 := (hbw.cell (p := ⟨g, _, none⟩) hg).trans c1
      have hg := Nat.lt_of_lt_of_le hg hbw.size
      have hii : (i : Int) < (l.length : Int) := by omega
      have HN : Hid (cntP (l.take (i + 1)) u v = z + (if Pai.beq (l.getD i Pai.zero) ⟨u, v⟩ then 1 else 0)) := Lib.hid (by rw [take_next hlt, cntP_snoc, HI.out.1])
      have HZ : Hid (cntP (l.take (i + 1)) u v ≤ 100000) := Lib.hid (by have := cntP_le (l.take (i + 1)) u v; rw [List.length_take] at this; have := HL.out; omega)
      have HB : Hid (∀ o, Below w.heap.size w (wr.alloc o)) := Lib.hid fun o => hbw.alloc hbw.size o
      generalize l.getD i Pai.zero = x at c0 c1 HN
      have heq := fun W => eq_pai x ⟨u, v⟩ W
      generalize Pai.beq x ⟨u, v⟩ = q at HN heq
      obtain ⟨x0, x1⟩ := x
      simp only at c0 c1 heq
      clear hbw HI
      cases q with
      | true =>
        have HN2 : Hid (cntP (l.take (i + 1)) u v = z + 1) := Lib.hid (by rw [HN.out]; rfl)
        clear HN
        go_wp2_with fail
        go_roundw
        case rel => exact ⟨i + 1, z + 1, by go_num, by go_num, hlt, by rw [← HN2.out]; exact HZ.out, Lib.hid ⟨HN2.out.symm, HB.out _⟩⟩
        case measure => simp [intOf]; omega
      | false =>
        have HN2 : Hid (cntP (l.take (i + 1)) u v = z) := Lib.hid (by rw [HN.out]; rfl)
        clear HN
        go_wp2_with fail
        go_roundw
        case rel => exact ⟨i + 1, z, by go_num, rfl, hlt, hz, Lib.hid ⟨HN2.out.symm, HB.out _⟩⟩
        case measure => simp [intOf]; omega
    · have e : i = l.length := by omega
      have HR : Hid (z = cntP l u v ∧ Below w.heap.size w wr) := Lib.hid (by
        have h := HI.out
        rw [e, List.take_length] at h
        exact h)
      clear HI e hi
      go_wp2
      go_ret
      exact ⟨by rw [← HR.out.1]; rfl, HR.out.2⟩
/-- What is left to be looked at, when one was dropped or not. -/
def restP (d : Bool) (l : List Pai) (u v : Int) : List Pai := if d then l else dropP l u v
theorem drop_step {l : List Pai} {i : Nat} (h : i < l.length) : l.drop i = l.getD i Pai.zero :: l.drop (i + 1) := by
  rw [List.drop_eq_getElem_cons h]
  simp [List.getD_eq_getElem?_getD, h]
theorem dropP_len : ∀ (l : List Pai) (u v : Int), (dropP l u v).length ≤ l.length
  | [], _, _ => Nat.le_refl _
  | p :: l, u, v => by
    unfold dropP
    split
    · simp
    · have := dropP_len l u v
      simp; omega
/-- Where Drop's loop is. -/
def DI (w : World) (l : List Pai) (u v : Int) (d : Bool) (i : Nat) (s7 : Value) (wr : World) : Prop := ∃ zs, OwnPai w.heap.size wr s7 zs ∧ zs ++ restP d (l.drop i) u v = dropP l u v ∧ Below w.heap.size w wr
set_option maxRecDepth 100000 in
set_option maxHeartbeats 4000000 in
theorem rdrop_any {base : Nat} {pv : Value} {l : List Pai} (w : World) (h : Pais base w pv l) (hl : l.length ≤ 100000) (u v : Int) : Calls Tryd.prog 25 #[pv, .int .i64 u, .int .i64 v] w fun e w' => ∃ r, e = .returned r ∧ OwnPai w.heap.size w' r (dropP l u v) ∧ Below w.heap.size w w' := by
  obtain ⟨p, c, rfl, hlm, hc⟩ := h.open_
  have HT := Lib.hid hc
  have HL := Lib.hid hl
  have hli : (l.length : Int) ≤ 100000 := by omega
  clear h hc
  go_enter Tryd.func25, Tryd.ntmps25
  go_wp2_with fail
  go_loopw [7, 8, 13] (fun s7 s8 s13 wr => ∃ (i : Nat) (d : Bool), s13 = .int .i64 (i : Int) ∧ s8 = .bool d ∧ i ≤ l.length ∧ Hid (DI w l u v d i s7 wr)) (fun _ _ s13 _ => l.length - (intOf s13).toNat)
  case atStart => exact ⟨0, false, rfl, rfl, Nat.zero_le _, Lib.hid ⟨[], OwnPai.nil _ _, by simp [restP], Below.refl _ _⟩⟩
  case round =>
    obtain ⟨i, d, rfl, rfl, hi, HI⟩ := hrel
    by_cases hlt : i < l.length
    · obtain ⟨g, o, rfl, _, hg, c0, c1⟩ := HT.out i hlt
      obtain ⟨zs, hown, hz, hbw⟩ := HI.out
      have c0 := (hbw.cell (p := ⟨g, _, none⟩) hg).trans c0
      have c1 := (hbw.cell (p := ⟨g, _, none⟩) hg).trans c1
      have hg := Nat.lt_of_lt_of_le hg hbw.size
      have hii : (i : Int) < (l.length : Int) := by omega
      rw [drop_step hlt] at hz
      have HZL : Hid (zs.length + 1 ≤ 100002) := Lib.hid (by
        have h1 := congrArg List.length hz
        rw [List.length_append] at h1
        have h2 := dropP_len l u v
        have := HL.out
        omega)
      have HB : Hid (∀ o, Below w.heap.size w (wr.alloc o)) := Lib.hid fun o => hbw.alloc hbw.size o
      have HOW : Hid (∀ o, OwnPai w.heap.size (wr.alloc o) u7 zs) := Lib.hid fun o => hown.lay rfl o
      have HOS : Hid (w.heap.size ≤ wr.heap.size) := Lib.hid hbw.size
      have HZ := Lib.hid hz
      have hne : ∀ g, u7.ownBlock = some g → w.heap.size ≤ g := fun g hg => (hown.base g hg).1
      have HNE := Lib.hid hne
      generalize l.getD i Pai.zero = x at c0 c1 HZ hz
      have heq := fun W => eq_pai x ⟨u, v⟩ W
      have HQ : Hid (dropP (x :: l.drop (i + 1)) u v = if Pai.beq x ⟨u, v⟩ then l.drop (i + 1) else x :: dropP (l.drop (i + 1)) u v) := Lib.hid rfl
      generalize Pai.beq x ⟨u, v⟩ = q at heq HQ
      obtain ⟨x0, x1⟩ := x
      simp only at c0 c1 heq
      clear hown hz hbw HI hne
      have HAPP : Hid (∀ d2, zs ++ restP d ((⟨x0, x1⟩ : Pai) :: l.drop (i + 1)) u v = (zs ++ [⟨x0, x1⟩]) ++ restP d2 (l.drop (i + 1)) u v → ∀ v8 w8, OwnPai w.heap.size w8 v8 (zs ++ [⟨x0, x1⟩]) → Below w.heap.size w w8 → DI w l u v d2 (i + 1) v8 w8) := Lib.hid fun d2 he v8 w8 h8 hb8 => ⟨_, h8, by rw [← he]; exact HZ.out, hb8⟩
      cases d with
      | true =>
        go_wp2_with (at_builtin; refine append_pais rfl (.tmp 26) (.tmp 28) rfl (B := w.heap.size) (by have := HOS.out; simp; omega) ((HOW.out _).lay rfl _) rfl (pai_at ⟨x0, x1⟩ (heap_alloc_at _ _ _ (by simp))) rfl (by have := HZL.out; simp only [List.length_cons, List.length_nil]; omega) ?_; intro v8 w8 h8 hg8 _; have HN8 : Hid (DI w l u v true (i + 1) v8 w8) := Lib.hid (HAPP.out true (by unfold restP; simp) v8 w8 h8 (Below.grown ((HB.out _).alloc (HB.out _).size _) hg8 (by have := HOS.out; simp; omega) HNE.out)); clear h8 hg8)
        go_roundw
        case rel => exact ⟨i + 1, true, by go_num, rfl, hlt, HN8⟩
        case measure => simp [intOf]; omega
      | false =>
        cases q with
        | true =>
          have HN8 : Hid (∀ o, DI w l u v true (i + 1) u7 (wr.alloc o)) := Lib.hid fun o => ⟨zs, HOW.out o, by
            have h1 := HZ.out
            unfold restP at h1 ⊢
            rw [if_neg (by decide), HQ.out, if_pos rfl] at h1
            rw [if_pos rfl]
            exact h1, HB.out o⟩
          go_wp2_with fail
          go_roundw
          case rel => exact ⟨i + 1, true, by go_num, rfl, hlt, Lib.hid (HN8.out _)⟩
          case measure => simp [intOf]; omega
        | false =>
          have HQF : Hid (zs ++ restP false ((⟨x0, x1⟩ : Pai) :: l.drop (i + 1)) u v = (zs ++ [⟨x0, x1⟩]) ++ restP false (l.drop (i + 1)) u v) := Lib.hid (by
            unfold restP
            rw [if_neg (by decide), if_neg (by decide), HQ.out, if_neg (by decide)]
            simp)
          go_wp2_with (at_builtin; refine append_pais rfl (.tmp 26) (.tmp 28) rfl (B := w.heap.size) (by have := HOS.out; simp; omega) ((HOW.out _).lay rfl _) rfl (pai_at ⟨x0, x1⟩ (heap_alloc_at _ _ _ (by simp))) rfl (by have := HZL.out; simp only [List.length_cons, List.length_nil]; omega) ?_; intro v8 w8 h8 hg8 _; have HN8 : Hid (DI w l u v false (i + 1) v8 w8) := Lib.hid (HAPP.out false HQF.out v8 w8 h8 (Below.grown ((HB.out _).alloc (HB.out _).size _) hg8 (by have := HOS.out; simp; omega) HNE.out)); clear h8 hg8)
          go_roundw
          case rel => exact ⟨i + 1, false, by go_num, rfl, hlt, HN8⟩
          case measure => simp [intOf]; omega
    · have e : i = l.length := by omega
      have HR : Hid (OwnPai w.heap.size wr u7 (dropP l u v) ∧ Below w.heap.size w wr) := Lib.hid (by
        obtain ⟨zs, h1, h2, h3⟩ := HI.out
        rw [e, List.drop_length] at h2
        have : restP d [] u v = [] := by unfold restP dropP; simp
        rw [this, List.append_nil] at h2
        rw [← h2]
        exact ⟨h1, h3⟩)
      clear HI e hi
      go_wp2
      go_ret
      exact ⟨_, rfl, HR.out.1, HR.out.2⟩
end Go.Proofs.YtakgepdlninnhaaDoor.Cs
