/-
  MapPlays: step's contract. Not a statement of the seat.
-/
import Derived.Test.YtpmimngngehmlaaPmOne
import Derived.Lib.QuietBelow
import Derived.BigQuiet
namespace Go.Proofs.Ytpmimngngehmlaa.F
open Go.ChangeShapes Go.WideShapes Go.ChangeAt Go.RowKit Go.Sort Base BigFrame
theorem results_one (tmps : Array Value) (w : World) (g : Nat) (x : On) (b : Bool) (hp : tmps.getD 4 undef = .pointer (some ⟨g, 0, none⟩)) (hb : tmps.getD 5 undef = .bool b) (hg : w.heap[g]? = some (boxN x)) : (results Try.f15 tmps).run Try.prog w = .ok (.tuple #[.agg #[.pointer x.m, .int .i64 x.r, .pointer x.a, .slice x.p x.n x.c], .bool b]) w := by
  obtain ⟨_, x0, x1, x2, x3⟩ := cellsN hg
  have hp' : tmps[4]?.getD undef = .pointer (some ⟨g, 0, none⟩) := by simpa using hp
  have hb' : tmps[5]?.getD undef = .bool b := by simpa using hb
  clear hp hb
  simp [results, Try.results15, go_sem, hp', hb', x0, x1, x2, x3]
/-- What a deed of no kind leaves: the map itself. -/
def StepSame (w0 : World) (a : Option Addr) (o : Option Nat) (room : Nat) (zs : List Cel) (bs : List (Nat × Obj)) (root : Int) (p : Option Addr) (n c : Nat) (e : Ending) (w' : World) : Prop :=
  e = .returned (.tuple #[.agg #[.pointer a, .int .i64 root, .pointer a, .slice p n c], .bool true]) ∧ PS w0 w' (.pointer a) o room zs (.slice none 0 0) [] bs
set_option maxHeartbeats 8000000 in
set_option maxRecDepth 100000 in
theorem pmstep_none {w0 w : World} {a : Option Addr} {o : Option Nat} {room : Nat} {zs : List Cel} {bs : List (Nat × Obj)} {t : Tre} {root : Int} {p : Option Addr} {c : Nat} (kind from_ key val : Int) (h : PS w0 w (.pointer a) o room zs (.slice none 0 0) [] bs) (ht : Tr zs t root) (hsz : t.size ≤ 65536) (hk : kind < 0 ∨ 4 < kind) :
    Calls Try.prog 15 #[.agg #[.pointer a, .int .i64 root, .pointer a, .slice p t.list.length c], .agg #[.int .i64 kind, .int .i64 from_, .int .i64 key, .int .i64 val]] w (StepSame w0 a o room zs bs root p t.list.length c) := by
  have P3 := Lib.hid (((h.addAt (boxN ⟨a, root, a, p, t.list.length, c⟩) rfl).addAt (g := w.heap.size + 1) (boxD6 kind from_ key val) (by simp)).addAt (g := w.heap.size + 2) (boxN On.zero) (by simp))
  have HT := Lib.hid ht
  have hh : t.high ≤ 70000 := by have := t.high_le_size; omega
  have HLE := Lib.hid h.1.1.le
  have HN : Hid ((∀ q ∈ (w.heap.size + 1, boxD6 kind from_ key val) :: (w.heap.size, boxN ⟨a, root, a, p, t.list.length, c⟩) :: bs, q.1 ≠ w.heap.size + 2) ∧ w0.heap.size ≤ w.heap.size + 2) := Lib.hid ⟨fun q hq e => by
    simp only [List.mem_cons] at hq
    rcases hq with rfl | rfl | hq
    · simp only at e; omega
    · simp only at e; omega
    · have := heap_lt (h.2.2 q hq).1; omega, by have := h.1.2.1.size; omega⟩
  clear h ht
  obtain ⟨X0, hX0⟩ : ∃ X0, X0 = ((w.alloc (boxN ⟨a, root, a, p, t.list.length, c⟩)).alloc (boxD6 kind from_ key val)).alloc (boxN On.zero) := ⟨_, rfl⟩
  have hX1 : ((w.alloc (.cells #[.pointer a, .int .i64 root, .pointer a, .slice p t.list.length c] 31)).alloc (.cells #[.int .i64 kind, .int .i64 from_, .int .i64 key, .int .i64 val] 34)).alloc (.cells #[.pointer none, .int .i64 0, .pointer none, .slice none 0 0] 31) = X0 := hX0.symm
  rw [← hX0] at P3
  clear hX0
  have HX1 := Lib.hid hX1
  clear hX1
  go_enter Try.func15, Try.ntmps15
  go_wp2_with fail
  rw [HX1.out]
  clear HX1
  obtain ⟨hgx, x0, x1, x2, x3⟩ := cellsN (P3.out.2.2 (w.heap.size, boxN ⟨a, root, a, p, t.list.length, c⟩) (by simp)).1
  simp only at x0 x1 x2 x3
  have k0 := cell_regrown x0
  have k1 := cell_regrown x1
  have k2 := cell_regrown x2
  have HR1 : Hid (∀ d os, Calls Try.prog 58 #[.pointer a] (grow (redrawn X0 d) os) fun e w'' => e = .returned (.int .i64 ((room : Int) - (zs.length : Int))) ∧ ∃ p : Regrown, w'' = grow (redrawn X0 p.d) p.os) := Lib.hid fun d os => Calls.regrown_of ((arroom_v (P3.out.below (below_regrown X0 d os)).1.1).mono fun _ _ ⟨e, n, h2⟩ => ⟨e, by rw [h2]; exact below_drewN (Below.refl _ _) n⟩)
  have HR2 : Hid (∀ d os, Calls Try.prog 60 #[.pointer a] (grow (redrawn X0 d) os) fun e w'' => e = .returned (.int .i64 (zs.length : Int)) ∧ ∃ p : Regrown, w'' = grow (redrawn X0 p.d) p.os) := Lib.hid fun d os => Calls.regrown_of ((arlen_v (P3.out.below (below_regrown X0 d os)).1.1).mono fun _ _ ⟨e, h2⟩ => ⟨e, by rw [← h2]; exact Below.refl _ _⟩)
  have HR3 : Hid (∀ d os, Calls Try.prog 22 #[.agg #[.pointer a, .int .i64 root]] (grow (redrawn X0 d) os) fun e w'' => e = .returned (.int .i64 (t.high : Int)) ∧ ∃ p : Regrown, w'' = grow (redrawn X0 p.d) p.os) := Lib.hid fun d os => Calls.regrown_of (pmhigh (P3.out.below (below_regrown X0 d os)).1.1 (t := t) (root := root) HT.out)
  refine wp_region_quiet_below (by kernel_rfl) (by kernel_rfl) ?_
  repeat (go_big_quiet_step (first | exact HR1.out _ _ | exact HR2.out _ _ | exact HR3.out _ _))
  refine wpQuiet_nil ?_
  intro _ hw'
  obtain ⟨⟨dq, osq⟩, hw''⟩ := hw'
  subst hw''
  have P4 := Lib.hid (P3.out.below (below_regrown X0 dq osq))
  obtain ⟨X1, hX1⟩ : ∃ X1, X1 = grow (redrawn X0 dq) osq := ⟨_, rfl⟩
  rw [← hX1] at P4
  rw [← hX1]
  clear hX1 P3 HR1 HR2 HR3 k0 k1 k2 hgx x0 x1 x2 x3
  obtain ⟨hgx, x0, x1, x2, x3⟩ := cellsN (P4.out.2.2 (w.heap.size, boxN ⟨a, root, a, p, t.list.length, c⟩) (by simp)).1
  obtain ⟨hgy, y0, y1, y2, y3⟩ := cellsD6 (P4.out.2.2 (w.heap.size + 1, boxD6 kind from_ key val) (by simp)).1
  simp only at x0 x1 x2 x3
  have hlE1 := HLE
  obtain ⟨hi, hhi⟩ : ∃ hi, hi = t.high := ⟨_, rfl⟩
  rw [← hhi] at hh
  try rw [← hhi]
  have HHI := Lib.hid hhi
  clear hhi
  have hle1 := hlE1.out.1
  have hle2 := hlE1.out.2
  have k0 : (kind == 0) = false := by rw [beq_eq_false_iff_ne]; omega
  have k1 : (kind == 1) = false := by rw [beq_eq_false_iff_ne]; omega
  have k2 : (kind == 2) = false := by rw [beq_eq_false_iff_ne]; omega
  have k3 : (kind == 3) = false := by rw [beq_eq_false_iff_ne]; omega
  have k4 : (kind == 4) = false := by rw [beq_eq_false_iff_ne]; omega
  clear hk
  go_wp2_with (refine wpList_store_one rfl (.tmp 4) (.tmp 194) rfl (w.heap.size + 2) ⟨a, root, a, p, t.list.length, c⟩ On.zero rfl rfl (P4.out.2.2 (w.heap.size + 2, boxN On.zero) (by simp)).1 ?_; intro w4 hst; have HST := Lib.hid hst; clear hst)
  exact bodyPost_ret (results_one _ _ (w.heap.size + 2) ⟨a, root, a, p, t.list.length, c⟩ true rfl rfl HST.out.2.2.2.2.1) rfl ⟨rfl, (P4.out.store HN.out.1 HN.out.2 HST.out).drop (fun q hq => by simp [hq])⟩
/-- What a put leaves, where there was room. -/
def StepOk (w0 w : World) (a : Option Addr) (room : Nat) (zs : List Cel) (bs : List (Nat × Obj)) (T : Tre) (e : Ending) (w' : World) : Prop :=
  ∃ o' zs' root' p' c' nb, e = .returned (.tuple #[.agg #[.pointer a, .int .i64 root', .pointer a, .slice p' T.list.length c'], .bool true]) ∧ (∃ new, zs' = zs ++ new) ∧ Tr zs' T root' ∧ LV nb (.slice p' T.list.length c') T.list ∧ (∀ q ∈ nb, w.heap.size ≤ q.1) ∧ PS w0 w' (.pointer a) o' room zs' (.slice none 0 0) [] (nb ++ bs)
end Go.Proofs.Ytpmimngngehmlaa.F
