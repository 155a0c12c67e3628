/-
  Contract of the editor's all: a tree of a list of numbers. Not a statement of the seat.
-/
import Derived.Test.YtpbkclciipmonaaPsEos
import Derived.Test.YtpbkclciipmonaaHead
namespace Go.Proofs.Ytpbkclciipmonaa.F
open Go.ChangeShapes Go.WideShapes Go.ChangeAt Go.RowKit Base
/-- A tree of a list, by halves. -/
def mkN (l : List Int) : Tre := match h : l with
  | [] => .nil
  | p :: t => .node (mkN (l.take (l.length / 2))) 0 (l.getD (l.length / 2) 0) (mkN (l.drop (l.length / 2 + 1)))
termination_by l.length
decreasing_by
  all_goals (subst h; simp; omega)
theorem mkN_nil : mkN [] = .nil := by rw [mkN]
theorem mkN_node {l : List Int} (h : 0 < l.length) : mkN l = .node (mkN (l.take (l.length / 2))) 0 (l.getD (l.length / 2) 0) (mkN (l.drop (l.length / 2 + 1))) := by
  cases l with
  | nil => simp at h
  | cons p t => rw [mkN]
theorem int_split {l : List Int} {k : Nat} (hk : k < l.length) : l = l.take k ++ l.getD k 0 :: l.drop (k + 1) := by
  have h1 : l.getD k 0 = l[k] := by rw [List.getD_eq_getElem?_getD, List.getElem?_eq_getElem hk]; rfl
  rw [h1, ← List.drop_eq_getElem_cons hk, List.take_append_drop]
theorem mkN_vals : ∀ (n : Nat) (l : List Int), l.length = n → (mkN l).vals = l := by
  intro n
  induction n using Nat.strongRecOn with
  | ind n ih =>
    intro l hl
    by_cases h0 : l.length = 0
    · rw [List.length_eq_zero_iff.1 h0, mkN_nil]; rfl
    · have hm : l.length / 2 < l.length := by omega
      rw [mkN_node (by omega), Tre.vals, ih _ (by rw [List.length_take]; omega) (l.take (l.length / 2)) rfl, ih _ (by rw [List.length_drop]; omega) (l.drop (l.length / 2 + 1)) rfl]
      exact (int_split hm).symm
theorem mkN_size (l : List Int) : (mkN l).size = l.length := by rw [← Tre.vals_len, mkN_vals _ l rfl]
theorem mkN_k0 : ∀ (n : Nat) (l : List Int), l.length = n → K0 (mkN l) := by
  intro n
  induction n using Nat.strongRecOn with
  | ind n ih =>
    intro l hl
    by_cases h0 : l.length = 0
    · rw [List.length_eq_zero_iff.1 h0, mkN_nil]; trivial
    · rw [mkN_node (by omega)]
      exact ⟨rfl, ih _ (by rw [List.length_take]; omega) (l.take (l.length / 2)) rfl, ih _ (by rw [List.length_drop]; omega) (l.drop (l.length / 2 + 1)) rfl⟩
theorem mkN_high : ∀ (n : Nat) (l : List Int), l.length = n → (mkN l).high = hg n ∧ (mkN l).bal := by
  intro n
  induction n using Nat.strongRecOn with
  | ind n ih =>
    intro l hl
    by_cases h0 : l.length = 0
    · rw [List.length_eq_zero_iff.1 h0, mkN_nil, ← hl, h0, hg_zero]; exact ⟨rfl, trivial⟩
    · rw [mkN_node (by omega)]
      have h1 := ih _ (by rw [List.length_take]; omega) (l.take (l.length / 2)) rfl
      have h2 := ih _ (by rw [List.length_drop]; omega) (l.drop (l.length / 2 + 1)) rfl
      rw [List.length_take, Nat.min_eq_left (by omega)] at h1
      rw [List.length_drop] at h2
      have h3 : hg (l.length - (l.length / 2 + 1)) ≤ hg (l.length / 2) ∧ hg (l.length / 2) ≤ hg (l.length - (l.length / 2 + 1)) + 1 := by
        rcases (show l.length - (l.length / 2 + 1) = l.length / 2 ∨ l.length / 2 = l.length - (l.length / 2 + 1) + 1 by omega) with e | e
        · rw [e]; omega
        · have := hg_step (l.length - (l.length / 2 + 1)); rw [← e] at this; omega
      simp only [Tre.high, Tre.bal]
      refine ⟨?_, h1.2, h2.2, ?_, ?_⟩
      · have e := hg_pos (show 0 < l.length by omega)
        rw [h1.1, h2.1, ← hl, e]; omega
      · rw [h1.1, h2.1]; omega
      · rw [h1.1, h2.1]; omega
/-- A list of numbers in memory, beside some blocks. -/
def NL (w : World) (v : Value) (l : List Int) (F : Nat → Prop) : Prop :=
  (l = [] ∧ ∃ p c, v = .slice p 0 c) ∨ ∃ g off c, v = .slice (some ⟨g, off, none⟩) l.length c ∧ l.length ≤ c ∧ g < w.heap.size ∧ ¬ F g ∧ ∀ k, k < l.length → w.cell? ⟨g, off + k, none⟩ = some (.int .i64 (l.getD k 0))
theorem NL.keep {w w' : World} {v : Value} {l : List Int} {F F' : Nat → Prop} (h : NL w v l F) (hs : w.heap.size ≤ w'.heap.size) (hk : ∀ g, g < w.heap.size → ¬ F g → w'.heap[g]? = w.heap[g]? ∧ ¬ F' g) : NL w' v l F' := by
  rcases h with h | ⟨g, off, c, hv, h1, h2, h3, h4⟩
  · exact .inl h
  · refine .inr ⟨g, off, c, hv, h1, Nat.lt_of_lt_of_le h2 hs, (hk g h2 h3).2, fun k hk' => ?_⟩
    have key : w'.cell? ⟨g, off + k, none⟩ = w.cell? ⟨g, off + k, none⟩ := World.cell?_of_block (a := ⟨g, off + k, none⟩) (hk g h2 h3).1
    rw [key]
    exact h4 k hk'
theorem EDS.nl {B : Nat} {pv : Value} {root had : Int} {room : Nat} {w0 w : World} {o0 o : Option Nat} {zs : List Cel} {why : Int} {bs : List (Nat × Obj)} (h : EDS B pv root had room w0 o0 w o zs why bs) {v : Value} {l : List Int} (hp : NL w0 v l (BF B pv o0)) : NL w v l (BF B pv o) :=
  hp.keep h.2.2.1.size fun g hg hn => ⟨h.2.2.1.block hg hn, fun k => hn (h.2.1.bf g hg k)⟩
theorem NL.cut {w : World} {g off c : Nat} {l : List Int} {F : Nat → Prop} (hc : l.length ≤ c) (hg : g < w.heap.size) (hF : ¬ F g) (h : ∀ k, k < l.length → w.cell? ⟨g, off + k, none⟩ = some (.int .i64 (l.getD k 0))) {n : Nat} (hn : n ≤ l.length) : NL w (.slice (some ⟨g, off, none⟩) n c) (l.take n) F := by
  have hl : (l.take n).length = n := by rw [List.length_take]; omega
  refine .inr ⟨g, off, c, by rw [hl], by omega, hg, hF, fun k hk => ?_⟩
  rw [hl] at hk
  have : (l.take n).getD k 0 = l.getD k 0 := by
    rw [List.getD_eq_getElem?_getD, List.getD_eq_getElem?_getD, List.getElem?_take, if_pos hk]
  rw [this]
  exact h k (by omega)
theorem NL.rest {w : World} {g off c : Nat} {l : List Int} {F : Nat → Prop} (hc : l.length ≤ c) (hg : g < w.heap.size) (hF : ¬ F g) (h : ∀ k, k < l.length → w.cell? ⟨g, off + k, none⟩ = some (.int .i64 (l.getD k 0))) {n : Nat} (hn : n ≤ l.length) : NL w (.slice (some ⟨g, (if c = n then off else off + n), none⟩) (l.length - n) (c - n)) (l.drop n) F := by
  have hl : (l.drop n).length = l.length - n := by rw [List.length_drop]
  by_cases e : l.length = n
  · refine .inl ⟨by rw [List.drop_eq_nil_iff]; omega, _, _, by rw [show l.length - n = 0 by omega]⟩
  · refine .inr ⟨g, off + n, c - n, by rw [hl, if_neg (by omega)], by omega, hg, hF, fun k hk => ?_⟩
    rw [hl] at hk
    have : (l.drop n).getD k 0 = l.getD (n + k) 0 := by
      rw [List.getD_eq_getElem?_getD, List.getD_eq_getElem?_getD, List.getElem?_drop]
    rw [this]
    have := h (n + k) (by omega)
    rw [show off + n + k = off + (n + k) by omega]
    exact this
theorem num_elem : Try.prog.elem 29 = 3 := by kernel_rfl
theorem num_size (wx : World) : (sizeOf 3).run Try.prog wx = .ok 1 wx := by kernel_rfl
theorem nslice_hd (g off len c m : Nat) (h : m ≤ len) (hc : len ≤ c) (wx : World) : (Instr.sliceAt 29 (.slice (some ⟨g, off, none⟩) len c) none (some (.int .i64 (m : Int))) none).run Try.prog wx = .ok (.slice (some ⟨g, off, none⟩) m c) wx := by
  rw [run_sliceAt_slice _ _ _ _ _ _ (by kernel_rfl), run_slice_h wx _ _ _ _ (by kernel_rfl) _ _ (by omega) (by omega), num_elem, num_size]
  simp only [Result.andThen, sliced, Int.toNat_natCast, Nat.sub_zero]
  simp [Addr.add]
theorem nslice_tl (g off len c m : Nat) (h : m + 1 ≤ len) (wx : World) : (Instr.sliceAt 29 (.slice (some ⟨g, off, none⟩) len c) (some (.int .i64 ((m : Int) + 1))) none none).run Try.prog wx = .ok (.slice (some ⟨g, (if c = m + 1 then off else off + (m + 1)), none⟩) (len - (m + 1)) (c - (m + 1))) wx := by
  rw [run_sliceAt_slice _ _ _ _ _ _ (by kernel_rfl), run_slice_l wx _ _ _ _ (by kernel_rfl) _ _ (by omega) (by omega), num_elem, num_size]
  simp only [Result.andThen, sliced, show ((m : Int) + 1).toNat = m + 1 by omega]
  by_cases e : c = m + 1
  · rw [if_pos e, if_pos e]
  · rw [if_neg e, if_neg e]; simp [Addr.add]
theorem EDS.oldcell {B : Nat} {pv : Value} {root had : Int} {room : Nat} {w0 w : World} {o0 o : Option Nat} {zs : List Cel} {why : Int} {bs : List (Nat × Obj)} (h : EDS B pv root had room w0 o0 w o zs why bs) {g : Nat} (hg : g < w0.heap.size) (hF : ¬ BF B pv o0 g) (j : Nat) : w.cell? ⟨g, j, none⟩ = w0.cell? ⟨g, j, none⟩ :=
  World.cell?_of_block (a := ⟨g, j, none⟩) (h.2.2.1.block hg hF)
set_option maxHeartbeats 8000000 in
set_option maxRecDepth 100000 in
theorem eall {B : Nat} {pv : Value} {root had : Int} {room : Nat} : ∀ (n : Nat) (l : List Int) (v : Value) (w : World) (o : Option Nat) (zs : List Cel) (why : Int), l.length = n → n ≤ 100000 → (∀ x ∈ l, -9223372036854775808 ≤ x ∧ x ≤ 9223372036854775807) → EDI w B pv o root had room zs why → (why = 0 ∨ (why = 2 ∧ zs.length = room)) → NL w v l (BF B pv o) →
    Calls Try.prog 73 #[.pointer (some ⟨B, 0, none⟩), v] w fun e w' => ∃ R, OX room zs why n (mkN l) R ∧ EDP B pv o root had room R.1 R.2.1 (.int .i64 R.2.2) w e w' := by
  intro n
  induction n using Nat.strongRecOn with
  | ind n ih =>
    intro l v w o zs why hl hn hok h hst hp
    obtain ⟨a, rfl⟩ : ∃ a, pv = .pointer a := by
      rcases h.2 with ⟨rfl, _⟩ | ⟨b, rfl, _⟩
      · exact ⟨_, rfl⟩
      · exact ⟨_, rfl⟩
    by_cases h0 : l.length = 0
    · have hl0 := List.length_eq_zero_iff.1 h0
      subst hl0
      obtain ⟨p, c, rfl⟩ : ∃ p c, v = .slice p 0 c := by
        rcases hp with ⟨_, h⟩ | ⟨g, off, c, h, _⟩
        · exact h
        · exact ⟨_, c, h⟩
      have HF : Hid (∃ R, OX room zs why n (mkN []) R ∧ EDP B (.pointer a) o root had room R.1 R.2.1 (.int .i64 R.2.2) w (.returned (.int .i64 0)) w) := Lib.hid (by
        rw [mkN_nil, ← hl]
        rcases hst with rfl | ⟨rfl, hf⟩
        · exact ⟨(zs, 0, 0), .inl ⟨rfl, [], by simp, .inl ⟨rfl, rfl, rfl⟩⟩, (EDS.start h).done _⟩
        · exact ⟨(zs, 2, 0), .inr ⟨rfl, hf, rfl⟩, (EDS.start h).done _⟩)
      clear hok h hst hp hl ih
      go_enter Try.func73, Try.ntmps73
      go_wp2
      go_ret
      exact HF.out
    · rcases hp with ⟨h1, _⟩ | ⟨g, off, c, rfl, hlc, hg, hF, hcells⟩
      · exact absurd (by rw [h1]; rfl) h0
      have hmid : l.length / 2 < l.length := by omega
      have P0 := Lib.hid (NL.cut (w := w) (F := BF B (.pointer a) o) hlc hg hF hcells (Nat.le_of_lt hmid))
      have P1 := Lib.hid (NL.rest (w := w) (F := BF B (.pointer a) o) hlc hg hF hcells (n := l.length / 2 + 1) (by omega))
      have hpk := hok (l.getD (l.length / 2) 0) (by rw [List.getD_eq_getElem?_getD, List.getElem?_eq_getElem hmid]; exact List.getElem_mem hmid)
      have ck := hcells _ hmid
      have HT : Hid (mkN l = .node (mkN (l.take (l.length / 2))) 0 (l.getD (l.length / 2) 0) (mkN (l.drop (l.length / 2 + 1)))) := Lib.hid (mkN_node (by omega))
      have hs1 := mkN_size (l.take (l.length / 2))
      have hs2 := mkN_size (l.drop (l.length / 2 + 1))
      have IH1 : Hid (∀ (X : World) (o' : Option Nat), EDI X B (.pointer a) o' root had room zs why → NL X (.slice (some ⟨g, off, none⟩) (l.length / 2) c) (l.take (l.length / 2)) (BF B (.pointer a) o') → Calls Try.prog 73 #[.pointer (some ⟨B, 0, none⟩), .slice (some ⟨g, off, none⟩) (l.length / 2) c] X fun e w' => ∃ R, OX room zs why (l.length / 2) (mkN (l.take (l.length / 2))) R ∧ EDP B (.pointer a) o' root had room R.1 R.2.1 (.int .i64 R.2.2) X e w') := Lib.hid fun X o' hX hP => ih _ (by omega) _ _ X o' zs why (by rw [List.length_take]; omega) (by omega) (fun p hp => hok p (List.mem_of_mem_take hp)) hX hst hP
      have IH2 : Hid (∀ (X : World) (o' : Option Nat) (zs1 : List Cel) (why1 : Int), EDI X B (.pointer a) o' root had room zs1 why1 → (why1 = 0 ∨ (why1 = 2 ∧ zs1.length = room)) → NL X (.slice (some ⟨g, (if c = l.length / 2 + 1 then off else off + (l.length / 2 + 1)), none⟩) (l.length - (l.length / 2 + 1)) (c - (l.length / 2 + 1))) (l.drop (l.length / 2 + 1)) (BF B (.pointer a) o') → Calls Try.prog 73 #[.pointer (some ⟨B, 0, none⟩), .slice (some ⟨g, (if c = l.length / 2 + 1 then off else off + (l.length / 2 + 1)), none⟩) (l.length - (l.length / 2 + 1)) (c - (l.length / 2 + 1))] X fun e w' => ∃ R, OX room zs1 why1 (l.length - (l.length / 2 + 1)) (mkN (l.drop (l.length / 2 + 1))) R ∧ EDP B (.pointer a) o' root had room R.1 R.2.1 (.int .i64 R.2.2) X e w') := Lib.hid fun X o' zs1 why1 hX hs hP => ih _ (by omega) _ _ X o' zs1 why1 (by rw [List.length_drop]) (by omega) (fun p hp => hok p (List.mem_of_mem_drop hp)) hX hs hP
      have J0 : Hid (EDS B (.pointer a) root had room w o w o zs why []) := Lib.hid (EDS.start h)
      have hle := h.2.le
      rw [HT.out]
      have HFg := Lib.hid hF
      clear ih hst hok h HT hcells hF
      rw [List.length_take, Nat.min_eq_left (Nat.le_of_lt hmid)] at hs1
      rw [List.length_drop] at hs2
      generalize l.getD (l.length / 2) 0 = pk at hpk ck ⊢
      generalize l.take (l.length / 2) = l1 at *
      generalize l.drop (l.length / 2 + 1) = l2 at *
      generalize hm : l.length / 2 = m at *
      generalize l.length = len at *
      subst hl
      have hml : m ≤ len := by omega
      have hml1 : m + 1 ≤ len := by omega
      have h0' : ((len : Int) == 0) = false := by rw [beq_eq_false_iff_ne]; omega
      have hmi : (m : Int) < (len : Int) := by omega
      have hmb : -9223372036854775808 ≤ (m : Int) ∧ (m : Int) ≤ 9223372036854775807 := by omega
      have hw1 : IntKind.i64.wrap ((m : Int) + 1) = (m : Int) + 1 := IntWalk.i64_in _ (by omega)
      have hq2 : (len : Int) / 2 = (m : Int) := by rw [half_div, hm]
      have hq : wrap64 ((len : Int) / 2) = (m : Int) := by rw [hq2]; exact IntWalk.wrap64_in _ hmb
      obtain ⟨off2, ho2⟩ : ∃ off2, off2 = if c = m + 1 then off else off + (m + 1) := ⟨_, rfl⟩
      rw [← ho2] at P1 IH2
      have hs1' := nslice_hd g off len c m hml hlc
      have hs2' := nslice_tl g off len c m hml1
      rw [← ho2] at hs2'
      have HS := Lib.hid (And.intro hs1 hs2)
      have HPK := Lib.hid hpk
      have HLE := Lib.hid hle
      have HLC := Lib.hid (And.intro hlc (And.intro hml1 hn))
      clear hm h0 ho2 hq2 hmid hs1 hs2 hpk hle hlc hml hml1 hn hmb
      go_enter Try.func73, Try.ntmps73
      go_upto_region 4 with fail
      have JD0 := Lib.hid J0.out.drew
      refine wp_region_held_drew (S := (fun _ => True)) (by kernel_rfl) trivial (fun hHeld0 => ?_)
      refine wpAnyH_take (i := 0) (v := ?_) rfl (by as_aux_lemma => kernel_rfl) (by as_aux_lemma => kernel_rfl) (by as_aux_lemma => kernel_rfl) (fun _ _ _ h => h) (Or.inl ⟨by as_aux_lemma => rfl, ?yt0⟩) (by assumption) ?qt0
      case yt0 => (intro wz hSw; (try dsimp only at hSw); go_simp <;> with_reducible rfl)
      try simp only [Act.put, List.getElem_toArray, List.getElem_cons_zero, List.setIfInBounds_toArray, List.set_cons_zero, List.set_cons_succ]
      refine wpAnyH_take (i := 1) (v := ?_) rfl (by as_aux_lemma => kernel_rfl) (by as_aux_lemma => kernel_rfl) (by as_aux_lemma => kernel_rfl) (fun _ _ _ h => h) (Or.inl ⟨by as_aux_lemma => rfl, ?yt1⟩) (by assumption) ?qt1
      case yt1 => (intro wz hSw; (try dsimp only at hSw); go_simp <;> with_reducible rfl)
      try simp only [Act.put, List.getElem_toArray, List.getElem_cons_zero, List.getElem_cons_succ, List.setIfInBounds_toArray, List.set_cons_zero, List.set_cons_succ]
      refine wpAnyH_take (i := 2) (v := ?_) rfl (by as_aux_lemma => kernel_rfl) (by as_aux_lemma => kernel_rfl) (by as_aux_lemma => kernel_rfl) (fun _ _ _ h => h) (Or.inl ⟨by as_aux_lemma => rfl, ?yt2⟩) (by assumption) ?qt2
      case yt2 => (intro wz hSw; (try dsimp only at hSw); go_simp <;> with_reducible rfl)
      try simp only [Act.put, List.getElem_toArray, List.getElem_cons_zero, List.getElem_cons_succ, List.setIfInBounds_toArray, List.set_cons_zero, List.set_cons_succ]
      refine wpAnyH_take (i := 3) (v := ?_) rfl (by as_aux_lemma => kernel_rfl) (by as_aux_lemma => kernel_rfl) (by as_aux_lemma => kernel_rfl) (fun _ _ _ h => h) (Or.inl ⟨by as_aux_lemma => rfl, ?yt3⟩) (by assumption) ?qt3
      case yt3 => (intro wz hSw; (try dsimp only at hSw); go_simp <;> with_reducible rfl)
      try simp only [Act.put, List.getElem_toArray, List.getElem_cons_zero, List.getElem_cons_succ, List.setIfInBounds_toArray, List.set_cons_zero, List.set_cons_succ]
      refine wpAnyH_take (i := 5) (v := ?_) rfl (by as_aux_lemma => kernel_rfl) (by as_aux_lemma => kernel_rfl) (by as_aux_lemma => kernel_rfl) (fun _ _ _ h => h) (Or.inl ⟨by as_aux_lemma => rfl, ?yt5⟩) (by assumption) ?qt5
      case yt5 => (intro wz hSw; (try dsimp only at hSw); go_simp <;> with_reducible rfl)
      try simp only [Act.put, List.getElem_toArray, List.getElem_cons_zero, List.getElem_cons_succ, List.setIfInBounds_toArray, List.set_cons_zero, List.set_cons_succ]
      refine wpAnyH_take (i := 6) (v := ?_) rfl (by as_aux_lemma => kernel_rfl) (by as_aux_lemma => kernel_rfl) (by as_aux_lemma => kernel_rfl) (fun _ _ _ h => h) (Or.inl ⟨by as_aux_lemma => rfl, ?yt6⟩) (by assumption) ?qt6
      case yt6 => (intro wz hSw; (try dsimp only at hSw); go_simp <;> with_reducible rfl)
      try simp only [Act.put, List.getElem_toArray, List.getElem_cons_zero, List.getElem_cons_succ, List.setIfInBounds_toArray, List.set_cons_zero, List.set_cons_succ]
      refine wpAnyH_take (i := 7) (v := ?_) rfl (by as_aux_lemma => kernel_rfl) (by as_aux_lemma => kernel_rfl) (by as_aux_lemma => kernel_rfl) (fun _ _ _ h => h) (Or.inl ⟨by as_aux_lemma => rfl, ?yt7⟩) (by assumption) ?qt7
      case yt7 => (intro wz hSw; (try dsimp only at hSw); go_simp <;> with_reducible rfl)
      try simp only [Act.put, List.getElem_toArray, List.getElem_cons_zero, List.getElem_cons_succ, List.setIfInBounds_toArray, List.set_cons_zero, List.set_cons_succ]
      refine wpAnyH_take (i := 8) (v := ?_) rfl (by as_aux_lemma => kernel_rfl) (by as_aux_lemma => kernel_rfl) (by as_aux_lemma => kernel_rfl) (fun _ _ _ h => h) (Or.inl ⟨by as_aux_lemma => rfl, ?yt8⟩) (by assumption) ?qt8
      case yt8 => (intro wz hSw; (try dsimp only at hSw); go_simp <;> with_reducible rfl)
      try simp only [Act.put, List.getElem_toArray, List.getElem_cons_zero, List.getElem_cons_succ, List.setIfInBounds_toArray, List.set_cons_zero, List.set_cons_succ]
      refine wpAnyH_take (i := 9) (v := ?_) rfl (by as_aux_lemma => kernel_rfl) (by as_aux_lemma => kernel_rfl) (by as_aux_lemma => kernel_rfl) (fun _ _ _ h => h) (Or.inl ⟨by as_aux_lemma => rfl, ?yt9⟩) (by assumption) ?qt9
      case yt9 => (intro wz hSw; (try dsimp only at hSw); go_simp <;> with_reducible rfl)
      try simp only [Act.put, List.getElem_toArray, List.getElem_cons_zero, List.getElem_cons_succ, List.setIfInBounds_toArray, List.set_cons_zero, List.set_cons_succ]
      refine wpAnyH_ready (rs := [4]) (by as_aux_lemma => kernel_rfl) (by simp) ?_
      refine AllReadyH.cons rfl (fun K hK => ?_) AllReadyH.nil
      go_simp
      refine (IH1.out _ _ JD0.out.bi (JD0.out.nl P0.out)).mono ?_
      rintro e w1 ⟨R1, hR1, hs1⟩
      obtain ⟨rfl, o1, J1⟩ := JD0.out.call hs1
      have HX1 := Lib.hid hR1
      clear hs1 hR1
      obtain ⟨zs1, why1, i1⟩ := R1
      simp only at HX1 J1 ⊢
      refine hK.out _ _ trivial (fun hHeld1 => ?_)
      clear hK K
      try simp only [Act.put, List.getElem_toArray, List.getElem_cons_zero, List.getElem_cons_succ, List.setIfInBounds_toArray, List.set_cons_zero, List.set_cons_succ]
      refine wpAnyH_ready (rs := [10]) (by as_aux_lemma => kernel_rfl) (by simp) ?_
      refine AllReadyH.cons rfl (fun K hK => ?_) AllReadyH.nil
      go_simp
      refine (IH2.out _ _ zs1 why1 J1.out.bi HX1.out.st.1 (J1.out.nl P1.out)).mono ?_
      rintro e w2 ⟨R2, hR2, hs2⟩
      obtain ⟨rfl, o2, J2⟩ := J1.out.call hs2
      have HX2 := Lib.hid hR2
      clear hs2 hR2
      obtain ⟨zs2, why2, i2⟩ := R2
      simp only at HX2 J2 ⊢
      refine hK.out _ _ trivial (fun hHeld2 => ?_)
      clear hK K
      try simp only [Act.put, List.getElem_toArray, List.getElem_cons_zero, List.getElem_cons_succ, List.setIfInBounds_toArray, List.set_cons_zero, List.set_cons_succ]
      refine wpAnyH_take (i := 11) (v := ?_) rfl (by as_aux_lemma => kernel_rfl) (by as_aux_lemma => kernel_rfl) (by as_aux_lemma => kernel_rfl) (fun _ _ _ h => h) (Or.inl ⟨by as_aux_lemma => rfl, ?yt11⟩) (by assumption) ?qt11
      case yt11 => (intro wz hSw; (try dsimp only at hSw); go_simp <;> with_reducible rfl)
      try simp only [Act.put, List.getElem_toArray, List.getElem_cons_zero, List.getElem_cons_succ, List.setIfInBounds_toArray, List.set_cons_zero, List.set_cons_succ]
      refine wpAnyH_take (i := 12) (v := ?_) rfl (by as_aux_lemma => kernel_rfl) (by as_aux_lemma => kernel_rfl) (by as_aux_lemma => kernel_rfl) (fun _ _ _ h => h) (Or.inl ⟨by as_aux_lemma => rfl, ?yt12⟩) (by assumption) ?qt12
      case yt12 => (intro wz hSw; (try dsimp only at hSw); go_simp <;> with_reducible rfl)
      try simp only [Act.put, List.getElem_toArray, List.getElem_cons_zero, List.getElem_cons_succ, List.setIfInBounds_toArray, List.set_cons_zero, List.set_cons_succ]
      refine wpAnyH_done (by as_aux_lemma => kernel_rfl) ?_ _
      have hx2 := HX2.out.st
      have hx1 := HX1.out.st
      have hln := J2.out.bi.2.le
      simp only at hx1 hx2
      have HPut : Hid (∀ (X : World) (o' : Option Nat), EDI X B (.pointer a) o' root had room zs2 why2 → Calls Try.prog 52 #[.pointer (some ⟨B, 0, none⟩), .int .i64 i1, .int .i64 pk, .int .i64 i2] X (EDP B (.pointer a) o' root had room (putM room zs2 why2 ⟨i1, i2, 0, pk, 0, 0⟩).1 (putM room zs2 why2 ⟨i1, i2, 0, pk, 0, 0⟩).2.1 (.int .i64 (putM room zs2 why2 ⟨i1, i2, 0, pk, 0, 0⟩).2.2) X)) := Lib.hid fun X o' hX => eput i1 pk i2 hX (by unfold fitC; simp only; omega) (by have h := HPK.out; unfold Cel.ok; simp only; omega)
      have HC := Lib.hid (all_comb (k := 0) (v := pk) HX1.out HX2.out (by have := HS.out.1; have := HLC.out; omega) (by have := HS.out.2; have := HLC.out; omega) (by simp only; omega))
      generalize putM room zs2 why2 ⟨i1, i2, 0, pk, 0, 0⟩ = q at HC HPut
      obtain ⟨zs3, why3, i3⟩ := q
      simp only at HC HPut
      clear hx1 hx2 hln
      have hgl := hg
      have ck2 := (J2.out.oldcell hg HFg.out (off + m)).trans ck
      clear ck
      go_wp2_with fail
      refine (HPut.out _ _ J2.out.bi).mono ?_
      intro e w3 hs3
      obtain ⟨rfl, o3, J3⟩ := J2.out.call hs3
      clear hs3 ck2
      go_wp2_with fail
      go_ret
      exact ⟨(zs3, why3, i3), by have h := HC.out; rwa [show m + (len - (m + 1)) + 1 = len by have := HLC.out; omega] at h, J3.out.done _⟩
end Go.Proofs.Ytpbkclciipmonaa.F
