/-
  SeqPlays: step's contract: what a deed leaves; a deed of no kind. Not a statement of the seat.
-/
import Derived.Test.YtbgepeokadmemaaSqJudge
import Derived.Test.YtbgepeokadmemaaSqRef
import Derived.Test.YtbgepeokadmemaaHead5
import Derived.Lib.QuietBelow
import Derived.BigQuiet
namespace Go.Proofs.Ytbgepeokadmemaa.Q
open Go.ChangeShapes Go.WideShapes Go.ChangeAt Go.RowKit Go.Sort Base F BigFrame
def Bd7 (l : List Int) : Prop := ∀ x ∈ l, -9223372036854775808 ≤ x ∧ x ≤ 9223372036854775807
/-- A tree of an arena. -/
def NS (zs : List Cel) (t : Tre) (r : Int) (n : Nat) : Prop := Tr zs t r ∧ K0 t ∧ t.bal ∧ t.size ≤ n
/-- What a deed leaves, whatever it is. -/
def SqAll (w0 w : World) (a : Option Addr) (room : Nat) (zs : List Cel) (bs ls : List (Nat × Obj)) (n : Nat) (e : Ending) (w' : World) : Prop :=
  ∃ (x : Qn) (o' : Option Nat) (zs' : List Cel) (nb : List (Nat × Obj)), e = .returned (.tuple #[.agg #[.pointer x.m, .int .i64 x.r, .pointer x.a, .slice x.p x.n x.c], .bool true]) ∧ PS w0 w' (.pointer a) o' room zs' (.slice none 0 0) [] (nb ++ bs) ∧ (∀ q ∈ nb, w.heap.size ≤ q.1) ∧ (∃ new, zs' = zs ++ new) ∧ x.m = x.a ∧
    ∃ t' : Tre, x.n = t'.vals.length ∧ Bd7 t'.vals ∧ ((x.a = a ∧ NS zs' t' x.r n ∧ LI (nb ++ ls) (.slice x.p x.n x.c) t'.vals) ∨ (∃ A2 : Arn, A2.pv = .pointer x.a ∧ F.Rest nb A2 ∧ NS A2.zs t' x.r n ∧ LI ls (.slice x.p x.n x.c) t'.vals))
theorem NS.up {zs : List Cel} {t : Tre} {r : Int} {n : Nat} (h : NS zs t r n) : NS zs t r (n + 1) := ⟨h.1, h.2.1, h.2.2.1, Nat.le_succ_of_le h.2.2.2⟩
theorem sq_same {w0 w : World} {a : Option Addr} {room : Nat} {zs : List Cel} {bs ls : List (Nat × Obj)} {t : Tre} {root : Int} {p : Option Addr} {c n : Nat} {w' : World} {o' : Option Nat} {nb : List (Nat × Obj)} (hp : PS w0 w' (.pointer a) o' room zs (.slice none 0 0) [] (nb ++ bs)) (hnb : ∀ q ∈ nb, w.heap.size ≤ q.1) (ht : NS zs t root n) (hbd : Bd7 t.vals) (hlv : LI ls (.slice p t.vals.length c) t.vals) :
    SqAll w0 w a room zs bs ls (n + 1) (.returned (.tuple #[.agg #[.pointer a, .int .i64 root, .pointer a, .slice p t.vals.length c], .bool true])) w' :=
  ⟨⟨a, root, a, p, t.vals.length, c⟩, o', zs, nb, rfl, hp, hnb, ⟨[], by simp⟩, rfl, t, rfl, hbd, .inl ⟨rfl, ht.up, hlv.mono fun q hq => List.mem_append_right _ hq⟩⟩
theorem sq_new {w0 w : World} {a : Option Addr} {room : Nat} {zs zs' : List Cel} {bs ls : List (Nat × Obj)} {n : Nat} {T : Tre} {r : Int} {p2 : Option Addr} {n2 c2 : Nat} {l2 : List Int} {w' : World} {o' : Option Nat} {nb : List (Nat × Obj)} (hp : PS w0 w' (.pointer a) o' room zs' (.slice none 0 0) [] (nb ++ bs)) (hnb : ∀ q ∈ nb, w.heap.size ≤ q.1) (hne : ∃ new, zs' = zs ++ new) (ht : NS zs' T r n) (hl2 : T.vals = l2) (hbd : Bd7 l2) (hlv : LI nb (.slice p2 n2 c2) l2) :
    SqAll w0 w a room zs bs ls n (.returned (.tuple #[.agg #[.pointer a, .int .i64 r, .pointer a, .slice p2 n2 c2], .bool true])) w' := by
  subst hl2
  obtain ⟨p3, c3, hv, _⟩ := hlv.form
  injection hv with e1 e2 e3
  exact ⟨⟨a, r, a, p2, n2, c2⟩, o', zs', nb, rfl, hp, hnb, hne, rfl, T, e2, hbd, .inl ⟨rfl, ht, hlv.mono fun q hq => List.mem_append_left _ hq⟩⟩
theorem results_one (tmps : Array Value) (w : World) (g : Nat) (x : Qn) (b : Bool) (hp : tmps.getD 4 undef = .pointer (some ⟨g, 0, none⟩)) (hb : tmps.getD 5 undef = .bool b) (hg : w.heap[g]? = some (boxQ x)) : (results Try.f7 tmps).run Try.prog w = .ok (.tuple #[.agg #[.pointer x.m, .int .i64 x.r, .pointer x.a, .slice x.p x.n x.c], .bool b]) w := by
  obtain ⟨_, x0, x1, x2, x3⟩ := cellsQ hg
  have hp' : tmps[4]?.getD undef = .pointer (some ⟨g, 0, none⟩) := by simpa using hp
  have hb' : tmps[5]?.getD undef = .bool b := by simpa using hb
  clear hp hb
  simp [results, Try.results7, go_sem, hp', hb', x0, x1, x2, x3]
set_option maxHeartbeats 8000000 in
set_option maxRecDepth 100000 in
theorem sqstep_none {w0 w : World} {a : Option Addr} {o : Option Nat} {room : Nat} {zs : List Cel} {bs ls : List (Nat × Obj)} {t : Tre} {root : Int} {p : Option Addr} {c n : Nat} (kind from_ i val : Int) (h : PS w0 w (.pointer a) o room zs (.slice none 0 0) [] bs) (ht : NS zs t root n) (hn : n ≤ 1000) (hbd : Bd7 t.vals) (hlv : LI ls (.slice p t.vals.length c) t.vals) (hsub : ∀ q ∈ ls, q ∈ bs) (hk : kind < 0 ∨ 6 < kind) :
    Calls Try.prog 7 #[.agg #[.pointer a, .int .i64 root, .pointer a, .slice p t.vals.length c], .agg #[.int .i64 kind, .int .i64 from_, .int .i64 i, .int .i64 val]] w (SqAll w0 w a room zs bs ls (n + 1)) := by
  have P3 := Lib.hid (((h.addAt (boxQ ⟨a, root, a, p, t.vals.length, c⟩) rfl).addAt (g := w.heap.size + 1) (boxD7 kind from_ i val) (by simp)).addAt (g := w.heap.size + 2) (boxQ Qn.zero) (by simp))
  have HT := Lib.hid ht
  have hh : t.high ≤ 70000 := by have := t.high_le_size; have := ht.2.2.2; omega
  have HLE := Lib.hid h.1.1.le
  have HLV := Lib.hid hlv
  have HSUB := Lib.hid hsub
  have HBD := Lib.hid hbd
  have HN : Hid ((∀ q ∈ (w.heap.size + 1, boxD7 kind from_ i val) :: (w.heap.size, boxQ ⟨a, root, a, p, t.vals.length, c⟩) :: bs, q.1 < w.heap.size + 2) ∧ w0.heap.size ≤ w.heap.size + 2 ∧ 0 = 0) := Lib.hid ⟨fun q hq => by
    simp only [List.mem_cons] at hq
    rcases hq with rfl | rfl | hq
    · simp only; omega
    · simp only; omega
    · have := heap_lt (h.2.2 q hq).1; omega, by have := h.1.2.1.size; omega, rfl⟩
  clear h ht hlv hsub hbd
  obtain ⟨X0, hX0⟩ : ∃ X0, X0 = ((w.alloc (boxQ ⟨a, root, a, p, t.vals.length, c⟩)).alloc (boxD7 kind from_ i val)).alloc (boxQ Qn.zero) := ⟨_, rfl⟩
  have hX1 : ((w.alloc (.cells #[.pointer a, .int .i64 root, .pointer a, .slice p t.vals.length c] 31)).alloc (.cells #[.int .i64 kind, .int .i64 from_, .int .i64 i, .int .i64 val] 34)).alloc (.cells #[.pointer none, .int .i64 0, .pointer none, .slice none 0 0] 31) = X0 := hX0.symm
  rw [← hX0] at P3
  clear hX0
  have HX1 := Lib.hid hX1
  clear hX1
  go_enter Try.func7, Try.ntmps7
  go_wp2_with fail
  rw [HX1.out]
  clear HX1
  refine (arlen_v P3.out.1.1).mono ?_
  rintro e w1 ⟨rfl, rfl⟩
  obtain ⟨hgx, x0, x1, x2, x3⟩ := cellsQ (P3.out.2.2 (w.heap.size, boxQ ⟨a, root, a, p, t.vals.length, c⟩) (by simp)).1
  simp only at x0 x1 x2 x3
  go_wp2_with fail
  have k0 := cell_regrown x0
  have k1 := cell_regrown x1
  have k2 := cell_regrown x2
  have HR1 : Hid (∀ d os, Calls Try.prog 21 #[.pointer a] (grow (redrawn X0 d) os) fun e w'' => e = .returned (.int .i64 ((room : Int) - (zs.length : Int))) ∧ ∃ p : Regrown, w'' = grow (redrawn X0 p.d) p.os) := Lib.hid fun d os => Calls.regrown_of ((arroom_v (P3.out.below (below_regrown X0 d os)).1.1).mono fun _ _ ⟨e, n, h2⟩ => ⟨e, by rw [h2]; exact below_drewN (Below.refl _ _) n⟩)
  have HR3 : Hid (∀ d os, Calls Try.prog 19 #[.agg #[.pointer a, .int .i64 root]] (grow (redrawn X0 d) os) fun e w'' => e = .returned (.int .i64 (t.high : Int)) ∧ ∃ p : Regrown, w'' = grow (redrawn X0 p.d) p.os) := Lib.hid fun d os => Calls.regrown_of (pshigh (P3.out.below (below_regrown X0 d os)).1.1 (t := t) (root := root) HT.out.1)
  refine wp_region_quiet_below (by kernel_rfl) (by kernel_rfl) ?_
  repeat (go_big_quiet_step (first | exact HR1.out _ _ | exact HR3.out _ _))
  refine wpQuiet_nil ?_
  intro _ hw'
  obtain ⟨⟨dq, osq⟩, hw''⟩ := hw'
  subst hw''
  have P4 := Lib.hid (P3.out.below (below_regrown X0 dq osq))
  obtain ⟨X1, hX1⟩ : ∃ X1, X1 = grow (redrawn X0 dq) osq := ⟨_, rfl⟩
  have HXS : Hid (w.heap.size + 2 < X1.heap.size) := Lib.hid (by rw [hX1]; exact heap_lt (P4.out.2.2 (w.heap.size + 2, boxQ Qn.zero) (by simp)).1)
  rw [← hX1] at P4
  rw [← hX1]
  clear hX1 P3 HR1 HR3 k0 k1 k2 hgx x0 x1 x2 x3
  obtain ⟨hgx, x0, x1, x2, x3⟩ := cellsQ (P4.out.2.2 (w.heap.size, boxQ ⟨a, root, a, p, t.vals.length, c⟩) (by simp)).1
  obtain ⟨hgy, y0, y1, y2, y3⟩ := cellsD7 (P4.out.2.2 (w.heap.size + 1, boxD7 kind from_ i val) (by simp)).1
  simp only at x0 x1 x2 x3
  have hle1 := HLE.out.1
  have hle2 := HLE.out.2
  have HTL : Hid (t.vals.length = t.size) := Lib.hid (Tre.vals_len t)
  have HSL : Hid (∀ X, PS w0 X (.pointer a) o room zs (.slice none 0 0) [] ((w.heap.size + 2, boxQ Qn.zero) :: (w.heap.size + 1, boxD7 kind from_ i val) :: (w.heap.size, boxQ ⟨a, root, a, p, t.vals.length, c⟩) :: bs) → Or.SL X (.slice p t.vals.length c) t.vals) := Lib.hid fun X hX => LI.sl (HLV.out.mono (bs' := (w.heap.size + 2, boxQ Qn.zero) :: (w.heap.size + 1, boxD7 kind from_ i val) :: (w.heap.size, boxQ ⟨a, root, a, p, t.vals.length, c⟩) :: bs) (fun q hq => by simp only [List.mem_cons]; exact .inr (.inr (.inr (HSUB.out q hq))))) (fun q hq => (hX.2.2 q hq).1) (by rw [HTL.out]; have := HT.out.2.2.2; omega)
  go_wp2_with fail
  refine (Or.rthere_any i _ (HSL.out _ P4.out)).mono ?_
  rintro e w2 ⟨rfl, rfl⟩
  generalize decide (0 ≤ i ∧ i < (t.vals.length : Int)) = tb

  have k0 : (kind == 0) = false := by rw [beq_eq_false_iff_ne]; omega
  have k1 : (kind == 1) = false := by rw [beq_eq_false_iff_ne]; omega
  have k2 : (kind == 2) = false := by rw [beq_eq_false_iff_ne]; omega
  have k3 : (kind == 3) = false := by rw [beq_eq_false_iff_ne]; omega
  have k4 : (kind == 4) = false := by rw [beq_eq_false_iff_ne]; omega
  have k5 : (kind == 5) = false := by rw [beq_eq_false_iff_ne]; omega
  have k6 : (kind == 6) = false := by rw [beq_eq_false_iff_ne]; omega
  clear hk
  go_wp2_with (refine wpList_store_one rfl (.tmp 4) (.tmp 198) rfl (w.heap.size + 2) ⟨a, root, a, p, t.vals.length, c⟩ Qn.zero rfl rfl (P4.out.2.2 (w.heap.size + 2, boxQ Qn.zero) (by simp)).1 ?_; intro w9 hst; have HST := Lib.hid hst; clear hst)
  have PZ := (P4.out.drop (bs' := (w.heap.size + 2, boxQ Qn.zero) :: ((w.heap.size + 1, boxD7 kind from_ i val) :: (w.heap.size, boxQ ⟨a, root, a, p, t.vals.length, c⟩) :: bs)) (by intro q hq; simp only [List.mem_cons] at hq ⊢; rcases hq with h | h | h | h <;> simp [h])).store (fun q hq => by
    have hN1 := HN.out.1
    exact Nat.ne_of_lt (hN1 q (by simpa using hq))) HN.out.2.1 HST.out
  exact bodyPost_ret (results_one _ _ (w.heap.size + 2) ⟨a, root, a, p, t.vals.length, c⟩ true rfl rfl HST.out.2.2.2.2.1) rfl (sq_same (nb := []) (PZ.drop fun q hq => by simp at hq; simp [hq]) (fun q hq => by cases hq) HT.out HBD.out HLV.out)
end Go.Proofs.Ytbgepeokadmemaa.Q
