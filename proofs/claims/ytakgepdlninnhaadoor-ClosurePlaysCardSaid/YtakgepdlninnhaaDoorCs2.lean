/-
  Closures in memory, and what is read of one. Not a statement of the seat.
-/
import Derived.Test.YtakgepdlninnhaaDoorCs1
import Derived.Test.YtakgepdlninnhaaDoorMpY
import Derived.Laws.Tables
namespace Go.Proofs.YtakgepdlninnhaaDoor.Cs
open Go.ChangeShapes Go.WideShapes Go.ChangeAt Go.RowKit Base F Bits
variable {w W W' : World}
def HeldP (v : Value) (w : World) (e : Ending) (w' : World) : Prop := e = .returned v ∧ Below w.heap.size w w'
def cloB (m : Option Nat) (p0 : Option Addr) (n0 c0 : Nat) (p1 : Option Addr) (n1 c1 : Nat) (p2 : Option Addr) (n c2 : Nat) (q : Option Addr) : Obj := .cells #[.map m, .slice p0 n0 c0, .slice p1 n1 c1, .slice p2 n c2, .pointer q] 56
theorem clo_cells {b : Nat} {m : Option Nat} {p0 p1 p2 q : Option Addr} {n0 c0 n1 c1 n c2 : Nat} (h : w.heap[b]? = some (cloB m p0 n0 c0 p1 n1 c1 p2 n c2 q)) : w.cell? ⟨b, 0, none⟩ = some (.map m) ∧ w.cell? ⟨b, 1, none⟩ = some (.slice p0 n0 c0) ∧ w.cell? ⟨b, 2, none⟩ = some (.slice p1 n1 c1) ∧ w.cell? ⟨b, 3, none⟩ = some (.slice p2 n c2) ∧ w.cell? ⟨b, 4, none⟩ = some (.pointer q) ∧ w.frozen? ⟨b, 4, none⟩ = false := by
  unfold cloB at h
  simp [World.cell?, World.frozen?, h]
theorem held_any {b : Nat} {m : Option Nat} {p0 p1 p2 q : Option Addr} {n0 c0 n1 c1 n c2 : Nat} (h : w.heap[b]? = some (cloB m p0 n0 c0 p1 n1 c1 p2 n c2 q)) : Calls Tryd.prog 32 #[.pointer (some ⟨b, 0, none⟩)] w (HeldP (.agg #[.map m, .slice p0 n0 c0, .slice p1 n1 c1, .slice p2 n c2, .pointer q]) w) := by
  obtain ⟨h0, h1, h2, h3, h4, _⟩ := clo_cells h
  have hlt := heap_lt h
  clear h
  go_enter Tryd.func32, Tryd.ntmps32
  go_wp2
  exact bodyPost_ret (results_cell_row Tryd.results32 _ _ w.heap.size _ _ _ _ rfl (heap_alloc_at _ _ _ rfl) Tryd.underlying56 rfl (by kernel_rfl)) rfl ⟨rfl, by go_grown⟩
theorem held_nil : Calls Tryd.prog 32 #[.pointer none] w (HeldP (.agg #[.map none, .slice none 0 0, .slice none 0 0, .slice none 0 0, .pointer none]) w) := by
  go_enter Tryd.func32, Tryd.ntmps32
  go_wp2
  exact bodyPost_ret (results_cell_row Tryd.results32 _ _ w.heap.size _ _ _ _ rfl (heap_alloc_at _ _ _ rfl) Tryd.underlying56 rfl (by kernel_rfl)) rfl ⟨rfl, by go_grown⟩
theorem fldC3 (m : Option Nat) (p0 p1 p2 q : Option Addr) (n0 c0 n1 c1 n c2 : Nat) (w : World) : (Instr.field 56 (.agg #[.map m, .slice p0 n0 c0, .slice p1 n1 c1, .slice p2 n c2, .pointer q]) 3).run Tryd.prog w = .ok (.slice p2 n c2) w := by kernel_rfl
theorem fldC4 (m : Option Nat) (p0 p1 p2 q : Option Addr) (n0 c0 n1 c1 n c2 : Nat) (w : World) : (Instr.field 56 (.agg #[.map m, .slice p0 n0 c0, .slice p1 n1 c1, .slice p2 n c2, .pointer q]) 4).run Tryd.prog w = .ok (.pointer q) w := by kernel_rfl
/-- A closure's pointer, nil or not. -/
def ClV (w : World) (pv : Value) (n : Nat) : Prop := (pv = .pointer none ∧ n = 0) ∨ ∃ b m p0 n0 c0 p1 n1 c1 p2 c2 q, pv = .pointer (some ⟨b, 0, none⟩) ∧ w.heap[b]? = some (cloB m p0 n0 c0 p1 n1 c1 p2 n c2 q)
theorem ClV.below {pv : Value} {n : Nat} (h : ClV w pv n) (hb : Below w.heap.size w W') : ClV W' pv n := by
  rcases h with h | ⟨b, m, p0, n0, c0, p1, n1, c1, p2, c2, q, h1, h2⟩
  · exact .inl h
  · exact .inr ⟨b, m, p0, n0, c0, p1, n1, c1, p2, c2, q, h1, (hb.block b (heap_lt h2)).trans h2⟩
theorem held_v {pv : Value} {n : Nat} (h : ClV w pv n) : ∃ m p0 n0 c0 p1 n1 c1 p2 c2 q, Calls Tryd.prog 32 #[pv] w (HeldP (.agg #[.map m, .slice p0 n0 c0, .slice p1 n1 c1, .slice p2 n c2, .pointer q]) w) := by
  rcases h with ⟨rfl, rfl⟩ | ⟨b, m, p0, n0, c0, p1, n1, c1, p2, c2, q, rfl, h2⟩
  · exact ⟨none, none, 0, 0, none, 0, 0, none, 0, none, held_nil⟩
  · exact ⟨m, p0, n0, c0, p1, n1, c1, p2, c2, q, held_any h2⟩
theorem nodes_any {pv : Value} {n : Nat} (h : ClV w pv n) : Calls Tryd.prog 13 #[pv] w (HeldP (.int .i64 (n : Int)) w) := by
  obtain ⟨m, p0, n0, c0, p1, n1, c1, p2, c2, q, hh⟩ := held_v h
  have HH := Lib.hid hh
  have hf := fldC3 m p0 p1 p2 q n0 c0 n1 c1 n c2
  clear hh h
  go_enter Tryd.func13, Tryd.ntmps13
  go_wp2_with fail
  refine HH.out.mono ?_
  rintro e w1 ⟨rfl, hb⟩
  have HB := Lib.hid hb
  clear hb HH
  go_wp2
  go_ret
  exact ⟨rfl, HB.out⟩
theorem isNode_any {pv : Value} {n : Nat} (h : ClV w pv n) (a : Int) : Calls Tryd.prog 26 #[pv, .int .i64 a] w (HeldP (.bool (decide (0 ≤ a ∧ a < (n : Int)))) w) := by
  have HN := Lib.hid (nodes_any h)
  clear h
  by_cases h0 : 0 ≤ a
  · by_cases h1 : a < (n : Int)
    · rw [decide_eq_true ⟨h0, h1⟩]
      go_enter Tryd.func26, Tryd.ntmps26
      go_wp2_with fail
      refine HN.out.mono ?_
      rintro e w1 ⟨rfl, hb⟩
      have HB := Lib.hid hb
      clear hb HN
      go_wp2
      go_ret
      exact ⟨rfl, HB.out⟩
    · rw [decide_eq_false (fun e => h1 e.2)]
      have h2 : decide (a < (n : Int)) = false := decide_eq_false h1
      go_enter Tryd.func26, Tryd.ntmps26
      go_wp2_with fail
      refine HN.out.mono ?_
      rintro e w1 ⟨rfl, hb⟩
      have HB := Lib.hid hb
      clear hb HN
      go_wp2
      go_ret
      exact ⟨by rw [← h2]; rfl, HB.out⟩
  · rw [decide_eq_false (fun e => h0 e.1)]
    clear HN
    go_enter Tryd.func26, Tryd.ntmps26
    go_wp2
    go_ret
    exact ⟨rfl, Below.refl _ _⟩
/-! counts -/
def gY (p : Int × Int) : Value := .agg #[.int .i32 p.1, .int .i32 p.2]
theorem gY_inj {p q : Int × Int} (h : gY p = gY q) : p = q := by
  unfold gY at h
  simp at h
  exact Prod.ext h.1 h.2
abbrev CM (w : World) (b m : Nat) (f : Int × Int → Int) : Prop := Mp.MW Tryd.prog 71 21 .i32 gY w b m f
theorem zeroI32 (w : World) : (zeroValue 21).run Tryd.prog w = .ok (.int .i32 0) w := by kernel_rfl
theorem i32_wrap {x : Int} (h : -2147483648 ≤ x ∧ x ≤ 2147483647) : IntKind.i32.wrap x = x := by rw [IntKind.wrap_i32]; omega
theorem of_any {b m : Nat} {f : Int × Int → Int} (h : CM w b m f) (u v : Int) (hu : 0 ≤ u ∧ u < 4096) (hv : 0 ≤ v ∧ v < 4096) (hf : 0 ≤ f (u, v) ∧ f (u, v) ≤ 2147483647) : Calls Tryd.prog 27 #[.map (some b), .int .i64 u, .int .i64 v] w fun e w' => e = .returned (.int .i64 (f (u, v))) ∧ w = w' := by
  obtain ⟨kl, hkl⟩ := Mp.key_y u v (by omega) (by omega)
  have HKL := Lib.hid hkl
  have HM := Lib.hid h
  have hu1 : IntKind.i32.wrap u = u := i32_wrap (by omega)
  have hv1 : IntKind.i32.wrap v = v := i32_wrap (by omega)
  have HF := Lib.hid hf
  clear h hkl hf
  go_enter Tryd.func27, Tryd.ntmps27
  go_wp2_with (at_lookup; refine Mp.wp_lookY Mp.keyedY Tryd.underlying51 Tryd.underlying21 zeroI32 rfl (.tmp 7) (.tmp 12) rfl HM.out rfl (u, v) rfl HKL.out ?_)
  go_ret
  exact ⟨by
    have e := IntWalk.wrap64_in (f (u, v)) ⟨by have := HF.out; omega, by have := HF.out; omega⟩
    show Ending.returned (.int .i64 (wrap64 (f (u, v)))) = _
    rw [e], rfl⟩
def setC (f : Int × Int → Int) (x : Int × Int) (c : Int) : Int × Int → Int := fun y => if y = x then c else f y
/-- What a change of the counts leaves. -/
def SetC (b m : Nat) (f : Int × Int → Int) (w : World) (e : Ending) (w' : World) : Prop := e = .returned (.tuple #[]) ∧ CM w' b m f ∧ w.grownBy w' (some b)
set_option maxRecDepth 100000 in
theorem set_any {b m : Nat} {f : Int × Int → Int} (h : CM w b m f) (hm : m ≤ 100000) (u v c : Int) (hu : 0 ≤ u ∧ u < 4096) (hv : 0 ≤ v ∧ v < 4096) (hc : 0 ≤ c ∧ c ≤ 2147483647) : Calls Tryd.prog 28 #[.map (some b), .int .i64 u, .int .i64 v, .int .i64 c] w fun e w' => ∃ m', m' ≤ m + 1 ∧ SetC b m' (setC f (u, v) c) w e w' := by
  obtain ⟨kl, hkl⟩ := Mp.key_y u v (by omega) (by omega)
  have HKL := Lib.hid hkl
  have HM := Lib.hid h
  have hu1 : IntKind.i32.wrap u = u := i32_wrap (by omega)
  have hv1 : IntKind.i32.wrap v = v := i32_wrap (by omega)
  have hc1 : IntKind.i32.wrap c = c := i32_wrap (by omega)
  have HWF := Lib.hid (WalkArith.wf_i32 (n := c) (by omega))
  have HS1 : Hid (∀ z, gY z = gY (u, v) → setC f (u, v) c z = c) := Lib.hid fun z hz => by unfold setC; rw [if_pos (gY_inj hz)]
  have HS2 : Hid (∀ z, gY z ≠ gY (u, v) → setC f (u, v) c z = f z) := Lib.hid fun z hz => by unfold setC; rw [if_neg (fun e => hz (by rw [e]))]
  have HMX : Hid (m < maxLen) := Lib.hid (by simp only [maxLen]; omega)
  clear h hkl hm
  by_cases h0 : c = 0
  · subst h0
    go_enter Tryd.func28, Tryd.ntmps28
    go_wp2_with (at_delete; refine Mp.wp_dropY Mp.keyedY Tryd.underlying51 rfl (.tmp 10) (.tmp 15) rfl HM.out rfl (u, v) rfl HKL.out (setC f (u, v) 0) HS1.out HS2.out ?_; intro w1 hm1 hg1; have HR := Lib.hid (And.intro hm1 hg1); clear hm1 hg1)
    exact bodyPost_ret (v := .tuple #[]) (results_none rfl _ _ _) rfl ⟨m, by omega, rfl, HR.out.1, HR.out.2⟩
  · have hne : (c == 0) = false := by rw [beq_eq_false_iff_ne]; exact h0
    go_enter Tryd.func28, Tryd.ntmps28
    go_wp2_with (at_mapUpdate; refine Mp.wp_storeY Mp.keyedY Tryd.underlying51 Tryd.underlying21 rfl (.tmp 16) (.tmp 21) (.tmp 23) rfl HM.out HMX.out rfl (u, v) rfl HKL.out c HWF.out rfl (setC f (u, v) c) HS1.out HS2.out ?_; intro w1 hm1 hg1; have HR := Lib.hid (And.intro hm1 hg1); clear hm1 hg1)
    go_end0
    exact ⟨m + 1, by omega, rfl, HR.out.1, HR.out.2⟩
end Go.Proofs.YtakgepdlninnhaaDoor.Cs
