/-
  What a transaction wrote so far: contracts of newWritten, add and has. Not a statement of the seat.
-/
import Derived.Test.YtmgkpabagpgilaaHead9
import Derived.Test.YtmgkpabagpgilaaHead10
namespace Go.Proofs.Ytmgkpabagpgilaa.Tx
open Go.ChangeShapes Go.WideShapes Go.ChangeAt Go.RowKit Base F Lst
def gW (p : Int × Int) : Value := .agg #[.int .i64 p.1, .int .i64 p.2]
theorem gW_inj {p q : Int × Int} (h : gW p = gW q) : p = q := by
  obtain ⟨a, b⟩ := p
  obtain ⟨c, d⟩ := q
  simp [gW] at h
  rw [h.1, h.2]
theorem zeroB (w : World) : (zeroValue 4).run Try.prog w = .ok (.bool false) w := by kernel_rfl
theorem zeroI (w : World) : (zeroValue 3).run Try.prog w = .ok (.int .i64 0) w := by kernel_rfl
theorem keyedI : Maps.Keyed Try.prog 3 := Maps.int_keyed Try.underlying3
/-- The writes so far, and how many of each key, in two maps. -/
def WI (W : World) (bw bc n : Nat) (l : List Opr) : Prop :=
  bw ≠ bc ∧ Mp.MB Try.prog 114 4 gW W bw n (fun p => decide (1 ≤ p.2 ∧ p.2 ≤ (wrN l p.1 : Nat))) ∧ Mp.MI Try.prog 3 3 (Value.int .i64) W bc n (fun a => (wrN l a : Nat))
theorem WI.aft {W W' : World} {bw bc n : Nat} {l : List Opr} (h : WI W bw bc n l) (hb : Aft W W') : WI W' bw bc n l := ⟨h.1, h.2.1.below hb, h.2.2.below hb⟩
/-- All but two blocks is as it was. -/
def But2 (W W' : World) (b c : Nat) : Prop := W'.os = W.os ∧ W'.tape = W.tape ∧ W'.output = W.output ∧ W.heap.size ≤ W'.heap.size ∧ ∀ j, j < W.heap.size → j ≠ b → j ≠ c → W'.heap[j]? = W.heap[j]?
theorem But2.aft {w W W' : World} {b c : Nat} (h : But2 W W' b c) (ha : Aft w W) (hb : w.heap.size ≤ b) (hc : w.heap.size ≤ c) : Aft w W' :=
  ⟨h.1.trans ha.os, h.2.1.trans ha.tape, h.2.2.1.trans ha.output, Nat.le_trans ha.size h.2.2.2.1, fun k hk => (h.2.2.2.2 k (Nat.lt_of_lt_of_le hk ha.size) (by omega) (by omega)).trans (ha.block k hk)⟩
def boxW (bw bc : Nat) : Obj := .cells #[.map (some bw), .map (some bc)] 93
theorem cellsW {w : World} {g bw bc : Nat} (h : w.heap[g]? = some (boxW bw bc)) : g < w.heap.size ∧ w.cell? ⟨g, 0, none⟩ = some (.map (some bw)) ∧ w.cell? ⟨g, 1, none⟩ = some (.map (some bc)) := by
  refine ⟨heap_lt h, ?_⟩
  unfold boxW at h
  simp [World.cell?, h]
def NewP (w : World) (e : Ending) (w' : World) : Prop := ∃ bw bc, e = .returned (.agg #[.map (some bw), .map (some bc)]) ∧ w.heap.size ≤ bw ∧ w.heap.size ≤ bc ∧ WI w' bw bc 0 [] ∧ Aft w w'
set_option maxRecDepth 100000 in
set_option maxHeartbeats 1000000 in
theorem new_any (w : World) : Calls Try.prog 40 #[] w (NewP w) := by
  have hmm := @run_makeMap Try.prog
  go_enter Try.func40, Try.ntmps40
  go_wp2
  refine bodyPost_ret (v := .agg #[.map (some (w.heap.size + 1)), .map (some (w.heap.size + 1 + 1))]) ?_ rfl ⟨w.heap.size + 1, w.heap.size + 1 + 1, rfl, by omega, by omega, ⟨by omega, ?_, ?_⟩, ((Aft.one _).lay _).lay _⟩
  · exact results_cell_row Try.results40 _ _ w.heap.size _ _ _ _ rfl (heap_alloc_lt _ _ _ _ (heap_alloc_lt _ _ _ _ (heap_alloc_at _ _ _ rfl))) Try.underlying93 rfl (by kernel_rfl)
  · exact (Mp.MB.made (heap_alloc_lt _ _ _ _ (heap_alloc_at _ _ _ (by simp)))).ext fun p => by
      have : ¬ (1 ≤ p.2 ∧ p.2 ≤ (wrN [] p.1 : Nat)) := by simp [wrN]; omega
      rw [decide_eq_false this]
  · exact (Mp.MI.made (heap_alloc_at _ _ _ (by simp))).ext fun a => by simp [wrN]
set_option maxRecDepth 100000 in
set_option maxHeartbeats 1000000 in
theorem has_any {W : World} {bw bc n : Nat} {l : List Opr} (key nth : Int) (h : WI W bw bc n l) (hk : -9223372036854775808 ≤ key ∧ key ≤ 9223372036854775807) (hn : -9223372036854775808 ≤ nth ∧ nth ≤ 9223372036854775807) :
    Calls Try.prog 43 #[.agg #[.map (some bw), .map (some bc)], .int .i64 key, .int .i64 nth] W (BoolNew (decide (1 ≤ nth ∧ nth ≤ (wrN l key : Nat))) W) := by
  obtain ⟨kl, hkl⟩ := Mp.key_w key nth hk hn
  have HR : Hid (∀ o, (Instr.lookup 90 (.map (some bw)) (.agg #[.int .i64 key, .int .i64 nth]) false).run Try.prog (W.alloc o) = .ok (.bool (decide (1 ≤ nth ∧ nth ≤ (wrN l key : Nat)))) (W.alloc o)) := Lib.hid fun o =>
    (h.aft (Aft.one o)).2.1.look Mp.keyedW Try.underlying90 Try.underlying4 (zeroB _) (key, nth) hkl
  have HE : Hid (∀ w', Aft W w' → BoolNew (decide (1 ≤ nth ∧ nth ≤ (wrN l key : Nat))) W (.returned (.bool (decide (1 ≤ nth ∧ nth ≤ (wrN l key : Nat))))) w') := Lib.hid fun w' h => ⟨rfl, h⟩
  generalize hP : BoolNew (decide (1 ≤ nth ∧ nth ≤ (wrN l key : Nat))) W = Post at HE ⊢
  generalize decide (1 ≤ nth ∧ nth ≤ (wrN l key : Nat)) = r at HR HE
  clear hP h hkl
  have hr := HR.out (.cells #[.map (some bw), .map (some bc)] 93)
  go_enter Try.func43, Try.ntmps43
  go_wp2
  exact HE.out _ (Aft.one _)
def AddP (W : World) (bw bc n : Nat) (l : List Opr) (e : Ending) (w' : World) : Prop := e = .returned (.tuple #[]) ∧ WI w' bw bc (n + 1) l ∧ But2 W w' bw bc
set_option maxRecDepth 100000 in
set_option maxHeartbeats 2000000 in
theorem add_any {W : World} {bw bc n : Nat} {l : List Opr} (t m key : Int) (h : WI W bw bc n l) (hl : l.length ≤ 100000) (hn : n ≤ 100000) (hk : -9223372036854775808 ≤ key ∧ key ≤ 9223372036854775807) :
    Calls Try.prog 42 #[.agg #[.map (some bw), .map (some bc)], .int .i64 key] W (AddP W bw bc n (l ++ [⟨false, key, t, m⟩])) := by
  have hwl := wrN_le l key
  have HI : Hid (∀ o, Mp.MI Try.prog 3 3 (Value.int .i64) (W.alloc o) bc n (fun a => (wrN l a : Nat))) := Lib.hid fun o => (h.aft (Aft.one o)).2.2
  have HS : Hid (∀ w1, Mp.MI Try.prog 3 3 (Value.int .i64) w1 bc (n + 1) (fun a => (wrN (l ++ [⟨false, key, t, m⟩]) a : Nat)) → ∀ o, (W.alloc o).grownBy w1 (some bc) → Mp.MB Try.prog 114 4 gW w1 bw n (fun p => decide (1 ≤ p.2 ∧ p.2 ≤ (wrN l p.1 : Nat)))) := Lib.hid fun w1 _ o hg => (h.aft (Aft.one o)).2.1.kept hg (fun e => h.1 (by injection e))
  have hne := h.1
  have HE : Hid (∀ o w1 w2, Mp.MI Try.prog 3 3 (Value.int .i64) w1 bc (n + 1) (fun a => (wrN (l ++ [⟨false, key, t, m⟩]) a : Nat)) → (W.alloc o).grownBy w1 (some bc) → Mp.MB Try.prog 114 4 gW w2 bw (n + 1) (fun p => decide (1 ≤ p.2 ∧ p.2 ≤ (wrN (l ++ [⟨false, key, t, m⟩]) p.1 : Nat))) → w1.grownBy w2 (some bw) → AddP W bw bc n (l ++ [⟨false, key, t, m⟩]) (.returned (.tuple #[])) w2) := Lib.hid fun o w1 w2 h1 h2 h3 h4 =>
    ⟨rfl, ⟨hne, h3, h1.kept h4 (fun e => hne (by injection e with e; exact e.symm))⟩, by
      have a1 := h2.size
      simp only [World.size_alloc] at a1
      refine ⟨h4.os.trans h2.os, h4.tape.trans h2.tape, h4.output.trans h2.output, Nat.le_trans (by omega) h4.size, fun j hj e1 e2 => ?_⟩
      rw [h4.block j (by omega) (fun e => e1 (by injection e)), h2.block j (by simp; omega) (fun e => e2 (by injection e)), Below.heap_alloc _ _ _ hj]⟩
  have HW1 : Hid (∀ a, (wrN (l ++ [(⟨false, key, t, m⟩ : Opr)]) a : Nat) = if a = key then wrN l key + 1 else wrN l a) := Lib.hid fun a => by
    rw [wrN_snoc]
    by_cases e : a = key
    · rw [if_pos ⟨rfl, e.symm⟩, if_pos e, e]
    · rw [if_neg (fun h => e h.2.symm), if_neg e]; rfl
  obtain ⟨q, hq⟩ : ∃ q, q = wrN l key := ⟨_, rfl⟩
  have HQ := Lib.hid hq
  have hq1 : -9223372036854775808 ≤ (q : Int) + 1 ∧ (q : Int) + 1 ≤ 9223372036854775807 := by omega
  have hlook := (h.aft (Aft.one (.cells #[.map (some bw), .map (some bc)] 93))).2.2.look keyedI Try.underlying91 Try.underlying3 (zeroI _) key (Mp.key_int Try.underlying3 hk)
  rw [← hq] at hlook
  have HBX : Hid (∀ w1, (W.alloc (.cells #[.map (some bw), .map (some bc)] 93)).grownBy w1 (some bc) → w1.cell? ⟨W.heap.size, 0, none⟩ = some (.map (some bw)) ∧ w1.cell? ⟨W.heap.size, 1, none⟩ = some (.map (some bc))) := Lib.hid fun w1 hg => by
    have hb := h.2.2.lt
    have h1 := (cellsW (bw := bw) (bc := bc) ((hg.block W.heap.size (by simp) (fun e => by injection e with e; omega)).trans (heap_alloc_at _ _ _ rfl))).2
    exact h1
  have HSM : Hid (∀ z, gW z = gW (key, (q : Int) + 1) → decide (1 ≤ z.2 ∧ z.2 ≤ (wrN (l ++ [(⟨false, key, t, m⟩ : Opr)]) z.1 : Nat)) = true) := Lib.hid fun z e => by
    rw [gW_inj e, decide_eq_true]
    refine ⟨by show (1 : Int) ≤ (q : Int) + 1; omega, ?_⟩
    show (q : Int) + 1 ≤ ((wrN (l ++ [(⟨false, key, t, m⟩ : Opr)]) key : Nat) : Int)
    rw [HW1.out, if_pos rfl, ← HQ.out]
    omega
  have HOT : Hid (∀ z, gW z ≠ gW (key, (q : Int) + 1) → decide (1 ≤ z.2 ∧ z.2 ≤ (wrN (l ++ [(⟨false, key, t, m⟩ : Opr)]) z.1 : Nat)) = decide (1 ≤ z.2 ∧ z.2 ≤ (wrN l z.1 : Nat))) := Lib.hid fun z e => by
    obtain ⟨a, b⟩ := z
    show decide (1 ≤ b ∧ b ≤ ((wrN (l ++ [(⟨false, key, t, m⟩ : Opr)]) a : Nat) : Int)) = decide (1 ≤ b ∧ b ≤ ((wrN l a : Nat) : Int))
    rw [HW1.out, decide_eq_decide]
    by_cases ea : a = key
    · have hb : b ≠ (q : Int) + 1 := fun h => e (by rw [ea, h])
      rw [if_pos ea, ea, ← HQ.out]
      omega
    · rw [if_neg ea]
  generalize AddP W bw bc n (l ++ [⟨false, key, t, m⟩]) = Post at HE ⊢
  obtain ⟨kl, hkl⟩ := Mp.key_w key ((q : Int) + 1) hk hq1
  have HKL := Lib.hid hkl
  have hmx : n < maxLen := by simp only [maxLen]; omega
  clear h hwl hq hkl
  go_enter Try.func42, Try.ntmps42
  go_wp2_with (first
    | (at_mapUpdate; refine Mp.wp_storeI keyedI Try.underlying91 Try.underlying3 rfl (.tmp 5) (.tmp 6) (.tmp 8) rfl (HI.out _) hmx rfl key rfl (Mp.key_int Try.underlying3 hk) ((q : Int) + 1) (WalkArith.wf_i64 hq1) rfl (fun a => (wrN (l ++ [⟨false, key, t, m⟩]) a : Nat)) (fun z e => by rw [Mp.int_inj e, HW1.out, if_pos rfl, HQ.out]; omega) (fun z e => by rw [HW1.out, if_neg (fun e2 => e (by rw [e2]))]) ?_; intro w1 h1 hg1; have H1 := Lib.hid h1; have HG1 := Lib.hid hg1; have hlook2 := h1.look keyedI Try.underlying91 Try.underlying3 (zeroI _) key (Mp.key_int Try.underlying3 hk); rw [HW1.out, if_pos rfl, ← HQ.out, show (((q + 1 : Nat)) : Int) = (q : Int) + 1 from by omega] at hlook2; obtain ⟨e0, e1⟩ := HBX.out _ hg1; clear h1 hg1 hlook)
    | (at_mapUpdate; refine Mp.wp_store Mp.keyedW Try.underlying90 Try.underlying4 rfl (.tmp 10) (.tmp 16) (.const (.bool true)) rfl (HS.out _ H1.out _ HG1.out) hmx rfl (key, (q : Int) + 1) rfl HKL.out true rfl (fun p => decide (1 ≤ p.2 ∧ p.2 ≤ (wrN (l ++ [⟨false, key, t, m⟩]) p.1 : Nat))) (HSM.out) (HOT.out) ?_; intro w2 h2 hg2; have H2 := Lib.hid (HE.out _ _ _ H1.out HG1.out h2 hg2); clear h2 hg2))
  go_end0
  exact H2.out
end Go.Proofs.Ytmgkpabagpgilaa.Tx
