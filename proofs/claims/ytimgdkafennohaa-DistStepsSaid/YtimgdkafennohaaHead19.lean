/-
  Contracts of small functions, several texts laid into one. Not a statement of the seat.
-/
import Derived.Test.YtimgdkafennohaaHead1
import Derived.Test.YtimgdkafennohaaHead5
import Derived.Test.YtimgdkafennohaaHead18
import Derived.Deep.DeepCutAuto
namespace Go.Proofs.Ytimgdkafennohaa.Ds
open Go.ChangeShapes Go.WideShapes Go.ChangeAt Go.RowKit Base F Gr
def stepI (d : Option Nat) : Int := match d with | none => -1 | some k => (k : Int)
def stepsV (n : Nat) (f : Nat → Int) : Array Value := ((List.range (2 * n)).map fun p => Value.int .i64 (f p)).toArray
def upI (f : Nat → Int) (p : Nat) (x : Int) : Nat → Int := fun i => if i = p then x else f i
theorem stepsV_at {n : Nat} {f : Nat → Int} {p : Nat} (h : p < 2 * n) : (stepsV n f)[p]? = some (.int .i64 (f p)) := by
  unfold stepsV
  simp [h]
theorem stepsV_put {n : Nat} {f : Nat → Int} {p : Nat} {x : Int} (h : p < 2 * n) : (stepsV n f).setIfInBounds p (.int .i64 x) = stepsV n (upI f p x) := by
  apply Array.ext_getElem?
  intro k
  rw [Array.getElem?_setIfInBounds]
  unfold stepsV upI
  by_cases e : p = k
  · subst e
    simp [h]
  · by_cases hk : k < 2 * n
    · simp [hk, e, Ne.symm e]
    · simp [hk, e]
theorem stepsV_ext {n : Nat} {f g : Nat → Int} (h : ∀ p, p < 2 * n → f p = g p) : stepsV n f = stepsV n g := by
  unfold stepsV
  congr 1
  refine List.map_congr_left fun p hp => ?_
  rw [h p (List.mem_range.1 hp)]
def natI (l : List Nat) : List Int := l.map fun (x : Nat) => (x : Int)
theorem natI_len (l : List Nat) : (natI l).length = l.length := by simp [natI]
/-- Where a search's parts lie. -/
structure Blk where
  b : Nat
  bS : Nat
  bq : Nat
  gq : Nat
def srchB (k : Blk) (n : Nat) (mask must least : Int) (pg : Option Addr) : Obj := .cells #[.int .i64 mask, .int .i64 must, .int .i64 least, .pointer pg, .slice (some ⟨k.bS, 0, none⟩) n n, .pointer (some ⟨k.bq, 0, none⟩)] 64
structure DS (B : Nat) (k : Blk) (n : Nat) (mask must least : Int) (pg : Option Addr) (W : World) (s : Ss) : Prop where
  head : W.heap[k.b]? = some (srchB k n mask must least pg)
  steps : W.heap[k.bS]? = some (.cells (stepsV n fun p => stepI (s.d p)) 65)
  que : QAt W k.bq k.gq (2 * n) (natI s.q)
  ge : B ≤ k.b ∧ B ≤ k.bS ∧ B ≤ k.bq ∧ B ≤ k.gq
  hn : n ≤ 4096
  size : B ≤ W.heap.size
def DF (k : Blk) (g : Nat) : Prop := g = k.b ∨ g = k.bS ∨ g = k.bq ∨ g = k.gq
section
variable {B : Nat} {k : Blk} {n : Nat} {mask must least : Int} {pg : Option Addr} {W W' : World} {s : Ss}
theorem DS.below (h : DS B k n mask must least pg W s) (hb : Below W.heap.size W W') : DS B k n mask must least pg W' s :=
  ⟨(hb.block _ (heap_lt h.head)).trans h.head, (hb.block _ (heap_lt h.steps)).trans h.steps, h.que.below hb, h.ge, h.hn, Nat.le_trans h.size hb.size⟩
theorem DS.df_ge (h : DS B k n mask must least pg W s) : ∀ g, DF k g → B ≤ g := by
  obtain ⟨h1, h2, h3, h4⟩ := h.ge
  rintro g (rfl | rfl | rfl | rfl)
  all_goals assumption
theorem DS.blw {W0 : World} (h : DS W0.heap.size k n mask must least pg W s) (hb : Below W0.heap.size W0 W) (hf : Fr (DF k) W W') : Below W0.heap.size W0 W' := hb.trans (hf.below h.df_ge h.size)
theorem DS.apart (h : DS B k n mask must least pg W s) : (k.b ≠ k.bS ∧ k.b ≠ k.bq ∧ k.b ≠ k.gq) ∧ (k.bS ≠ k.bq ∧ k.bS ≠ k.gq) := by
  have key : ∀ {g g' : Nat} {cs cs' : Array Value} {T T' : TypeId}, W.heap[g]? = some (Obj.cells cs T (0, 0)) → W.heap[g']? = some (Obj.cells cs' T' (0, 0)) → T ≠ T' → g ≠ g' := by
    intro g g' cs cs' T T' h1 h2 hne e
    rw [e, h2] at h1
    simp only [Option.some.injEq, Obj.cells.injEq] at h1
    exact hne h1.2.1.symm
  have hb : W.heap[k.b]? = some (Obj.cells _ 64 (0, 0)) := h.head
  obtain ⟨_, _, _, _, N, f, cur, _, _, _, _, h8, h9, _⟩ := h.que
  have h8' : W.heap[k.bq]? = some (Obj.cells _ 92 (0, 0)) := h8
  exact ⟨⟨key hb h.steps (by decide), key hb h8' (by decide), key hb h9 (by decide)⟩, ⟨key h.steps h8' (by decide), key h.steps h9 (by decide)⟩⟩
theorem DS.cells (h : DS B k n mask must least pg W s) : W.cell? ⟨k.b, 0, none⟩ = some (.int .i64 mask) ∧ W.cell? ⟨k.b, 1, none⟩ = some (.int .i64 must) ∧ W.cell? ⟨k.b, 2, none⟩ = some (.int .i64 least) ∧ W.cell? ⟨k.b, 3, none⟩ = some (.pointer pg) ∧ W.cell? ⟨k.b, 4, none⟩ = some (.slice (some ⟨k.bS, 0, none⟩) n n) ∧ W.cell? ⟨k.b, 5, none⟩ = some (.pointer (some ⟨k.bq, 0, none⟩)) := by
  have hh := h.head
  unfold srchB at hh
  simp [World.cell?, hh]
theorem DS.step (h : DS B k n mask must least pg W s) {p : Nat} (hp : p < 2 * n) : W.cell? ⟨k.bS, p, none⟩ = some (.int .i64 (stepI (s.d p))) ∧ W.frozen? ⟨k.bS, p, none⟩ = false := by
  constructor
  · simp only [World.cell?, h.steps]
    simpa using stepsV_at (f := fun p => stepI (s.d p)) hp
  · simp [World.frozen?, h.steps]
theorem setO {W : World} {g g' i : Nat} {x : Value} (h : g' ≠ g) : (W.setCell ⟨g, i, none⟩ x).heap[g']? = W.heap[g']? := Below.heap_setCell _ _ _ _ h
theorem que_keep {b g room : Nat} {xs : List Int} (h : QAt W b g room xs) (hb : W'.heap[b]? = W.heap[b]?) (hg : W'.heap[g]? = W.heap[g]?) : QAt W' b g room xs := by
  obtain ⟨h1, h2, h3, k, N, f, cur, h4, h5, h6, h7, h8, h9, h10⟩ := h
  exact ⟨h1, h2, h3, k, N, f, cur, h4, h5, h6, h7, hb.trans h8, hg.trans h9, h10⟩
/-- A number is written. -/
theorem DS.write (h : DS B k n mask must least pg W s) {p v : Nat} (hp : p < 2 * n) : DS B k n mask must least pg (W.setCell ⟨k.bS, p, none⟩ (.int .i64 (v : Int))) ⟨putD s.d p v, s.q⟩ := by
  obtain ⟨⟨a1, a2, a3⟩, ⟨a4, a5⟩⟩ := h.apart
  refine ⟨(setO a1).trans h.head, ?_, que_keep h.que (setO a4.symm) (setO a5.symm), h.ge, h.hn, by have := h.size; simp [World.setCell]; omega⟩
  have h1 := h.steps
  have : (W.setCell ⟨k.bS, p, none⟩ (.int .i64 (v : Int))).heap[k.bS]? = some (.cells ((stepsV n fun p => stepI (s.d p)).setIfInBounds p (.int .i64 (v : Int))) 65) := by
    simp only [World.setCell, Array.getElem?_modify, if_true, h1, Option.map_some]
    rfl
  rw [this, stepsV_put hp]
  congr 2
  refine stepsV_ext fun i _ => ?_
  unfold upI putD
  by_cases e : i = p <;> simp [e, stepI]
/-- The queue is turned. -/
theorem DS.turn (h : DS B k n mask must least pg W s) {q : List Nat} (hq : QAt W' k.bq k.gq (2 * n) (natI q)) (hf : Fr (fun g => g = k.bq ∨ g = k.gq) W W') : DS B k n mask must least pg W' ⟨s.d, q⟩ := by
  obtain ⟨⟨a1, a2, a3⟩, ⟨a4, a5⟩⟩ := h.apart
  exact ⟨(hf.block (heap_lt h.head) (fun e => e.elim a2 a3)).trans h.head, (hf.block (heap_lt h.steps) (fun e => e.elim a4 a5)).trans h.steps, hq, h.ge, h.hn, Nat.le_trans h.size hf.size⟩
end
/-- Which places may be. -/
def okP (n : Nat) (least : Int) (p : Nat) : Bool := decide (least ≤ ((p / 2 : Nat) : Int)) && decide (p / 2 < n)
theorem okP_lt {n : Nat} {least : Int} {p : Nat} (h : okP n least p = true) : p < 2 * n := by
  unfold okP at h
  rw [Bool.and_eq_true, decide_eq_true_eq, decide_eq_true_eq] at h
  omega
/-- A search on its way, in memory. -/
def DP (B : Nat) (k : Blk) (n : Nat) (mask must least : Int) (pg : Option Addr) (W : World) (s' : Ss) (e : Ending) (W' : World) : Prop := e = .returned (.tuple #[]) ∧ DS B k n mask must least pg W' s' ∧ Fr (DF k) W W'
end Go.Proofs.Ytimgdkafennohaa.Ds
namespace Go.Proofs.Ytimgdkafennohaa.Ds
open Go.ChangeShapes Go.WideShapes Go.ChangeAt Go.RowKit Base F Gr
variable {B : Nat} {k : Blk} {n : Nat} {mask must least : Int} {pg : Option Addr} {W W' : World} {s : Ss}
theorem or_bit (v st : Nat) (hv : v ≤ 5000) (hs : st ≤ 1) : bits .or .i64 ((v : Int) * 2) (st : Int) = ((2 * v + st : Nat) : Int) := by
  have hj : (2 * v ||| st) = 2 * v + st := nat_join 1 (2 * v) st (by omega) (by omega)
  show IntKind.i64.wrap ((BitVec.ofInt 64 ((v : Int) * 2) ||| BitVec.ofInt 64 (st : Int)).toNat : Int) = _
  rw [show (v : Int) * 2 = ((2 * v : Nat) : Int) by omega, BitVec.toNat_or, ofInt_u64 _ (by omega), ofInt_u64 _ (by omega), hj, IntKind.wrap_i64]
  omega
theorem and_bit (p : Nat) : bits .and .i64 (p : Int) 1 = ((p % 2 : Nat) : Int) := by
  have h1 : (BitVec.ofInt 64 1).toNat = 2 ^ 1 - 1 := by decide
  have key : (BitVec.ofInt 64 (p : Int) &&& BitVec.ofInt 64 1).toNat = ((p : Int) % ((2 ^ 64 : Nat) : Int)).toNat % 2 ^ 1 := by
    rw [BitVec.toNat_and, BitVec.toNat_ofInt, h1, Nat.and_two_pow_sub_one_eq_mod]
  show IntKind.i64.wrap ((BitVec.ofInt 64 (p : Int) &&& BitVec.ofInt 64 1).toNat : Nat) = _
  rw [key, IntKind.wrap_i64]
  omega
theorem nodup_len : ∀ (l : List Nat) (n : Nat), l.Nodup → (∀ x ∈ l, x < n) → l.length ≤ n := by
  intro l n hd h
  induction n generalizing l with
  | zero =>
    rcases l with _ | ⟨a, l⟩
    · simp
    · exact absurd (h a List.mem_cons_self) (by omega)
  | succ n ih =>
    have h1 := ih (l.filter fun x => !(x == n)) (hd.sublist List.filter_sublist) (fun x hx => by
      rw [List.mem_filter] at hx
      have := h x hx.1
      have h2 := hx.2
      simp at h2
      omega)
    have h3 : (l.filter fun x => x == n).length ≤ 1 := by
      have hd2 : (l.filter fun x => x == n).Nodup := hd.sublist List.filter_sublist
      have ha : ∀ x ∈ l.filter fun x => x == n, x = n := fun x hx => by
        rw [List.mem_filter] at hx
        simpa using hx.2
      revert hd2 ha
      generalize (l.filter fun x => x == n) = m
      intro hd2 ha
      match m, hd2, ha with
      | [], _, _ => simp
      | [_], _, _ => simp
      | a :: b :: m, hd2, ha =>
        have e1 := ha a List.mem_cons_self
        have e2 := ha b (List.mem_cons_of_mem _ List.mem_cons_self)
        rw [List.nodup_cons] at hd2
        exact absurd (by rw [e1, e2]; exact List.mem_cons_self) hd2.1
    have h4 : (l.filter fun x => x == n).length + (l.filter fun x => !(x == n)).length = l.length := by
      clear h h1 h3 hd
      induction l with
      | nil => rfl
      | cons a l ih =>
        rw [List.filter_cons, List.filter_cons]
        cases e : (a == n) with
        | true => rw [if_pos rfl, if_neg (by decide), List.length_cons, List.length_cons]; omega
        | false =>
          have h0 : (!false) = true := rfl
          rw [if_neg (by decide), if_pos h0, List.length_cons, List.length_cons]; omega
    omega
set_option maxRecDepth 100000 in
set_option maxHeartbeats 4000000 in
theorem meet_out (h : DS B k n mask must least pg W s) {x : Int} (st kk : Int) (hx : x < max least 0 ∨ (¬ x < max least 0 ∧ (n : Int) ≤ x)) : Calls Try.prog 26 #[.pointer (some ⟨k.b, 0, none⟩), .int .i64 x, .int .i64 st, .int .i64 kk] W fun e W' => e = .returned (.tuple #[]) ∧ W' = W := by
  obtain ⟨c0, c1, c2, c3, c4, c5⟩ := h.cells
  clear h
  rcases hx with h1 | ⟨h1, h2⟩
  · go_enter Try.func26, Try.ntmps26
    go_wp2
    exact bodyPost_ret (v := .tuple #[]) (results_none rfl _ _ _) rfl ⟨rfl, rfl⟩
  · go_enter Try.func26, Try.ntmps26
    go_wp2
    exact bodyPost_ret (v := .tuple #[]) (results_none rfl _ _ _) rfl ⟨rfl, rfl⟩
set_option maxRecDepth 100000 in
set_option maxHeartbeats 4000000 in
theorem meet_in (h : DS B k n mask must least pg W s) {v st kk : Nat} (hst : st ≤ 1) (hok : okP n least (2 * v + st) = true) (hq : s.d (2 * v + st) = none → s.q.length < 2 * n) : Calls Try.prog 26 #[.pointer (some ⟨k.b, 0, none⟩), .int .i64 (v : Nat), .int .i64 (st : Nat), .int .i64 (kk : Nat)] W (DP B k n mask must least pg W (meetD (okP n least) kk s (2 * v + st))) := by
  have hlt := okP_lt hok
  have hok2 := hok
  unfold okP at hok2
  rw [Bool.and_eq_true, decide_eq_true_eq, decide_eq_true_eq, show (2 * v + st) / 2 = v by omega] at hok2
  obtain ⟨hl1, hl2⟩ := hok2
  have hn4 := h.hn
  have g1 : ¬ (v : Int) < max least 0 := by omega
  have g2 : ¬ (n : Int) ≤ (v : Int) := by omega
  have hvn : (v : Int) < (n : Int) := by omega
  obtain ⟨c0, c1, c2, c3, c4, c5⟩ := h.cells
  obtain ⟨d1, d2⟩ := h.step hlt
  have hS2 : (st : Int) < 2 := by omega
  have hN4 : (n : Int) ≤ 4096 := by omega
  rw [show 2 * v + st = v * 2 + st by omega] at d1 d2
  cases e : s.d (2 * v + st) with
  | some m =>
    have HK : Hid (DP B k n mask must least pg W (meetD (okP n least) kk s (2 * v + st)) (.returned (.tuple #[])) W) := Lib.hid (by
      unfold meetD
      rw [if_neg (fun hh => by rw [e] at hh; cases hh.2)]
      exact ⟨rfl, h, Fr.refl _ _⟩)
    rw [show v * 2 + st = 2 * v + st by omega, e, show 2 * v + st = v * 2 + st by omega] at d1
    unfold stepI at d1
    simp only at d1
    have hm : (0 : Int) ≤ (m : Int) := by omega
    generalize DP B k n mask must least pg W (meetD (okP n least) kk s (2 * v + st)) = Post at HK ⊢
    clear h e hok hl1 hl2 hlt hq
    go_enter Try.func26, Try.ntmps26
    go_wp2
    exact bodyPost_ret (v := .tuple #[]) (results_none rfl _ _ _) rfl HK.out
  | none =>
    have HOR := or_bit v st (by omega) hst
    have hW := h.write (v := kk) hlt
    obtain ⟨W1, hW1⟩ : ∃ W1, W1 = W.setCell ⟨k.bS, v * 2 + st, none⟩ (.int .i64 (kk : Int)) := ⟨_, rfl⟩
    rw [show 2 * v + st = v * 2 + st by omega, ← hW1] at hW
    have c5' := hW.cells.2.2.2.2.2
    rw [hW1] at c5'
    have HP := Lib.hid (fqpush_ok hW.que (by rw [natI_len]; exact hq e) ((2 * v + st : Nat) : Int))
    have HK : Hid (∀ e W', QPost k.bq k.gq (2 * n) (natI s.q ++ [((2 * v + st : Nat) : Int)]) (.int .i64 0) W1 e W' → DP B k n mask must least pg W (meetD (okP n least) kk s (2 * v + st)) (.returned (.tuple #[])) W') := Lib.hid fun e' W' hp => by
      unfold meetD
      rw [if_pos ⟨hok, e⟩]
      have e2 : natI s.q ++ [((2 * v + st : Nat) : Int)] = natI (s.q ++ [2 * v + st]) := by simp [natI]
      have h3 := hp.2.1
      rw [e2] at h3
      have h4 := hW.turn h3 hp.2.2
      rw [show v * 2 + st = 2 * v + st by omega] at h4
      refine ⟨rfl, h4, ?_⟩
      have r1 : Fr (DF k) W W1 := by rw [hW1]; exact (Fr.refl _ _).setCell (.inr (.inl rfl)) _ _
      exact r1.trans hp.2.2 (fun g _ hg => by rcases hg with rfl | rfl <;> (unfold DF; simp))
    rw [show v * 2 + st = 2 * v + st by omega, e, show 2 * v + st = v * 2 + st by omega] at d1
    unfold stepI at d1
    simp only at d1
    generalize DP B k n mask must least pg W (meetD (okP n least) kk s (2 * v + st)) = Post at HK ⊢
    clear h e hok hl1 hl2 hlt hq hW
    go_enter Try.func26, Try.ntmps26
    go_wp2_with fail
    rw [← hW1]
    clear hW1 c5'
    refine HP.out.mono ?_
    intro e w2 hp
    have he := hp.1
    subst he
    have HF := Lib.hid (HK.out _ _ hp)
    clear hp HK HP
    go_wp2_with fail
    go_end0
    exact HF.out
theorem q_room {pv : Nat → List Nat} {a c : Nat} (h : Sv (okP n least) pv a c s) {x : Nat} (hx : okP n least x = true) (hn : s.d x = none) : s.q.length < 2 * n := by
  have hlt : ∀ y ∈ s.q, y < 2 * n := fun y hy => by
    obtain ⟨m, h1, _⟩ := h.known y hy
    exact okP_lt (h.okd y m h1)
  have hno : x ∉ s.q := fun hm => by
    obtain ⟨m, h1, _⟩ := h.known x hm
    rw [hn] at h1; cases h1
  have := nodup_len (x :: s.q) (2 * n) (List.nodup_cons.2 ⟨hno, h.nodup⟩) (fun y hy => by
    rcases List.mem_cons.1 hy with rfl | hy
    · exact okP_lt hx
    · exact hlt y hy)
  rw [List.length_cons] at this
  omega
theorem meet_any {pv : Nat → List Nat} {a c : Nat} (h : DS B k n mask must least pg W s) (hs : Sv (okP n least) pv a c s) {t st kk : Nat} (ht : t < n) (hst : st ≤ 1) : Calls Try.prog 26 #[.pointer (some ⟨k.b, 0, none⟩), .int .i64 (t : Nat), .int .i64 (st : Nat), .int .i64 (kk : Nat)] W (DP B k n mask must least pg W (meetD (okP n least) kk s (2 * t + st))) := by
  by_cases hok : okP n least (2 * t + st) = true
  · exact meet_in h hst hok (fun hn => q_room hs hok hn)
  · have hx : (t : Int) < max least 0 := by
      unfold okP at hok
      rw [Bool.and_eq_true, decide_eq_true_eq, decide_eq_true_eq, show (2 * t + st) / 2 = t by omega] at hok
      omega
    refine (meet_out h (st : Int) (kk : Int) (.inl hx)).mono ?_
    rintro e W' ⟨rfl, rfl⟩
    refine ⟨rfl, ?_, Fr.refl _ _⟩
    unfold meetD
    rw [if_neg (fun hh => hok hh.1)]
    exact h
end Go.Proofs.Ytimgdkafennohaa.Ds
