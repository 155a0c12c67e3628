/-
  Contract of the builder's all: a tree of a list of pairs. Not a statement of the seat.
-/
import Derived.Test.YtpbkclciipmonaaPmWithout
import Derived.Test.YtpbkclciipmonaaHead3
namespace Go.Proofs.Ytpbkclciipmonaa.F
open Go.ChangeShapes Go.WideShapes Go.ChangeAt Go.RowKit Base
/-- A tree of a list, by halves. -/
def mkT (l : List Pai) : Tre := match h : l with
  | [] => .nil
  | p :: t => .node (mkT (l.take (l.length / 2))) (l.getD (l.length / 2) Pai.zero).k (l.getD (l.length / 2) Pai.zero).v (mkT (l.drop (l.length / 2 + 1)))
termination_by l.length
decreasing_by
  all_goals (subst h; simp; omega)
theorem mkT_nil : mkT [] = .nil := by rw [mkT]
theorem mkT_node {l : List Pai} (h : 0 < l.length) : mkT l = .node (mkT (l.take (l.length / 2))) (l.getD (l.length / 2) Pai.zero).k (l.getD (l.length / 2) Pai.zero).v (mkT (l.drop (l.length / 2 + 1))) := by
  cases l with
  | nil => simp at h
  | cons p t => rw [mkT]
theorem pai_split' {l : List Pai} {k : Nat} (hk : k < l.length) : l = l.take k ++ ⟨(l.getD k Pai.zero).k, (l.getD k Pai.zero).v⟩ :: l.drop (k + 1) := by
  have h1 : l.getD k Pai.zero = l[k] := by rw [List.getD_eq_getElem?_getD, List.getElem?_eq_getElem hk]; rfl
  show l = l.take k ++ l.getD k Pai.zero :: l.drop (k + 1)
  rw [h1, ← List.drop_eq_getElem_cons hk, List.take_append_drop]
theorem mkT_list : ∀ (n : Nat) (l : List Pai), l.length = n → (mkT l).list = l := by
  intro n
  induction n using Nat.strongRecOn with
  | ind n ih =>
    intro l hl
    by_cases h0 : l.length = 0
    · rw [List.length_eq_zero_iff.1 h0, mkT_nil]; rfl
    · have hm : l.length / 2 < l.length := by omega
      rw [mkT_node (by omega), Tre.list, ih _ (by rw [List.length_take]; omega) (l.take (l.length / 2)) rfl, ih _ (by rw [List.length_drop]; omega) (l.drop (l.length / 2 + 1)) rfl]
      exact (pai_split' hm).symm
theorem mkT_size (l : List Pai) : (mkT l).size = l.length := by rw [← Tre.list_len, mkT_list _ l rfl]
theorem mkT_high : ∀ (n : Nat) (l : List Pai), l.length = n → (mkT l).high = hg n ∧ (mkT l).bal := by
  intro n
  induction n using Nat.strongRecOn with
  | ind n ih =>
    intro l hl
    by_cases h0 : l.length = 0
    · rw [List.length_eq_zero_iff.1 h0, mkT_nil, ← hl, h0, hg_zero]; exact ⟨rfl, trivial⟩
    · rw [mkT_node (by omega)]
      have h1 := ih _ (by rw [List.length_take]; omega) (l.take (l.length / 2)) rfl
      have h2 := ih _ (by rw [List.length_drop]; omega) (l.drop (l.length / 2 + 1)) rfl
      rw [List.length_take, Nat.min_eq_left (by omega)] at h1
      rw [List.length_drop] at h2
      have h3 : hg (l.length - (l.length / 2 + 1)) ≤ hg (l.length / 2) ∧ hg (l.length / 2) ≤ hg (l.length - (l.length / 2 + 1)) + 1 := by
        rcases (show l.length - (l.length / 2 + 1) = l.length / 2 ∨ l.length / 2 = l.length - (l.length / 2 + 1) + 1 by omega) with e | e
        · rw [e]; omega
        · have := hg_step (l.length - (l.length / 2 + 1)); rw [← e] at this; omega
      simp only [Tre.high, Tre.bal]
      refine ⟨?_, h1.2, h2.2, ?_, ?_⟩
      · have e := hg_pos (show 0 < l.length by omega)
        rw [h1.1, h2.1, ← hl, e]; omega
      · rw [h1.1, h2.1]; omega
      · rw [h1.1, h2.1]; omega
/-- A list of pairs in memory, beside some blocks. -/
def PL (w : World) (v : Value) (l : List Pai) (F : Nat → Prop) : Prop :=
  (l = [] ∧ ∃ p c, v = .slice p 0 c) ∨ ∃ g off c, v = .slice (some ⟨g, off, none⟩) l.length c ∧ l.length ≤ c ∧ g < w.heap.size ∧ ¬ F g ∧ ∀ k, k < l.length → w.cell? ⟨g, off + k * 2, none⟩ = some (.int .i64 (l.getD k Pai.zero).k) ∧ w.cell? ⟨g, off + k * 2 + 1, none⟩ = some (.int .i64 (l.getD k Pai.zero).v)
theorem PL.keep {w w' : World} {v : Value} {l : List Pai} {F F' : Nat → Prop} (h : PL w v l F) (hs : w.heap.size ≤ w'.heap.size) (hk : ∀ g, g < w.heap.size → ¬ F g → w'.heap[g]? = w.heap[g]? ∧ ¬ F' g) : PL w' v l F' := by
  rcases h with h | ⟨g, off, c, hv, h1, h2, h3, h4⟩
  · exact .inl h
  · refine .inr ⟨g, off, c, hv, h1, Nat.lt_of_lt_of_le h2 hs, (hk g h2 h3).2, fun k hk' => ?_⟩
    have key : ∀ j, w'.cell? ⟨g, j, none⟩ = w.cell? ⟨g, j, none⟩ := fun j => World.cell?_of_block (a := ⟨g, j, none⟩) (hk g h2 h3).1
    rw [key, key]
    exact h4 k hk'
theorem BS.pl {B : Nat} {pv : Value} {root had : Int} {room : Nat} {w0 w : World} {o0 o : Option Nat} {zs : List Cel} {why : Int} {bs : List (Nat × Obj)} (h : BS B pv root had room w0 o0 w o zs why bs) {v : Value} {l : List Pai} (hp : PL w0 v l (BF B pv o0)) : PL w v l (BF B pv o) :=
  hp.keep h.2.2.1.size fun g hg hn => ⟨h.2.2.1.block hg hn, fun k => hn (h.2.1.bf g hg k)⟩
theorem PL.cut {w : World} {g off c : Nat} {l : List Pai} {F : Nat → Prop} (hc : l.length ≤ c) (hg : g < w.heap.size) (hF : ¬ F g) (h : ∀ k, k < l.length → w.cell? ⟨g, off + k * 2, none⟩ = some (.int .i64 (l.getD k Pai.zero).k) ∧ w.cell? ⟨g, off + k * 2 + 1, none⟩ = some (.int .i64 (l.getD k Pai.zero).v)) {n : Nat} (hn : n ≤ l.length) : PL w (.slice (some ⟨g, off, none⟩) n c) (l.take n) F := by
  have hl : (l.take n).length = n := by rw [List.length_take]; omega
  refine .inr ⟨g, off, c, by rw [hl], by omega, hg, hF, fun k hk => ?_⟩
  rw [hl] at hk
  have : (l.take n).getD k Pai.zero = l.getD k Pai.zero := by
    rw [List.getD_eq_getElem?_getD, List.getD_eq_getElem?_getD, List.getElem?_take, if_pos hk]
  rw [this]
  exact h k (by omega)
theorem PL.rest {w : World} {g off c : Nat} {l : List Pai} {F : Nat → Prop} (hc : l.length ≤ c) (hg : g < w.heap.size) (hF : ¬ F g) (h : ∀ k, k < l.length → w.cell? ⟨g, off + k * 2, none⟩ = some (.int .i64 (l.getD k Pai.zero).k) ∧ w.cell? ⟨g, off + k * 2 + 1, none⟩ = some (.int .i64 (l.getD k Pai.zero).v)) {n : Nat} (hn : n ≤ l.length) : PL w (.slice (some ⟨g, (if c = n then off else off + n * 2), none⟩) (l.length - n) (c - n)) (l.drop n) F := by
  have hl : (l.drop n).length = l.length - n := by rw [List.length_drop]
  by_cases e : l.length = n
  · refine .inl ⟨by rw [List.drop_eq_nil_iff]; omega, _, _, by rw [show l.length - n = 0 by omega]⟩
  · refine .inr ⟨g, off + n * 2, c - n, by rw [hl, if_neg (by omega)], by omega, hg, hF, fun k hk => ?_⟩
    rw [hl] at hk
    have : (l.drop n).getD k Pai.zero = l.getD (n + k) Pai.zero := by
      rw [List.getD_eq_getElem?_getD, List.getD_eq_getElem?_getD, List.getElem?_drop]
    rw [this]
    have := h (n + k) (by omega)
    rw [show off + n * 2 + k * 2 = off + (n + k) * 2 by omega]
    exact this
set_option maxRecDepth 100000 in
theorem pair_elem : Try.prog.elem 51 = 56 := by kernel_rfl
set_option maxRecDepth 100000 in
theorem pair_size (wx : World) : (sizeOf 56).run Try.prog wx = .ok 2 wx := by kernel_rfl
set_option maxRecDepth 100000 in
theorem slice_hd (g off len c m : Nat) (h : m ≤ len) (hc : len ≤ c) (wx : World) : (Instr.sliceAt 51 (.slice (some ⟨g, off, none⟩) len c) none (some (.int .i64 (m : Int))) none).run Try.prog wx = .ok (.slice (some ⟨g, off, none⟩) m c) wx := by
  rw [run_sliceAt_slice _ _ _ _ _ _ (by kernel_rfl), run_slice_h wx _ _ _ _ (by kernel_rfl) _ _ (by omega) (by omega), pair_elem, pair_size]
  simp only [Result.andThen, sliced, Int.toNat_natCast, Nat.sub_zero]
  simp [Addr.add]
set_option maxRecDepth 100000 in
theorem slice_tl (g off len c m : Nat) (h : m + 1 ≤ len) (wx : World) : (Instr.sliceAt 51 (.slice (some ⟨g, off, none⟩) len c) (some (.int .i64 ((m : Int) + 1))) none none).run Try.prog wx = .ok (.slice (some ⟨g, (if c = m + 1 then off else off + (m + 1) * 2), none⟩) (len - (m + 1)) (c - (m + 1))) wx := by
  rw [run_sliceAt_slice _ _ _ _ _ _ (by kernel_rfl), run_slice_l wx _ _ _ _ (by kernel_rfl) _ _ (by omega) (by omega), pair_elem, pair_size]
  simp only [Result.andThen, sliced, show ((m : Int) + 1).toNat = m + 1 by omega]
  by_cases e : c = m + 1
  · rw [if_pos e, if_pos e]
  · rw [if_neg e, if_neg e]; simp [Addr.add]
theorem BS.oldcell {B : Nat} {pv : Value} {root had : Int} {room : Nat} {w0 w : World} {o0 o : Option Nat} {zs : List Cel} {why : Int} {bs : List (Nat × Obj)} (h : BS B pv root had room w0 o0 w o zs why bs) {g : Nat} (hg : g < w0.heap.size) (hF : ¬ BF B pv o0 g) (j : Nat) : w.cell? ⟨g, j, none⟩ = w0.cell? ⟨g, j, none⟩ :=
  World.cell?_of_block (a := ⟨g, j, none⟩) (h.2.2.1.block hg hF)
set_option maxHeartbeats 8000000 in
set_option maxRecDepth 100000 in
theorem ball {B : Nat} {pv : Value} {root had : Int} {room : Nat} : ∀ (n : Nat) (l : List Pai) (v : Value) (w : World) (o : Option Nat) (zs : List Cel) (why : Int), l.length = n → n ≤ 100000 → (∀ p ∈ l, p.ok) → BI w B pv o root had room zs why → (why = 0 ∨ (why = 2 ∧ zs.length = room)) → PL w v l (BF B pv o) →
    Calls Try.prog 62 #[.pointer (some ⟨B, 0, none⟩), v] w fun e w' => ∃ R, OX room zs why n (mkT l) R ∧ BP B pv o root had room R.1 R.2.1 (.int .i64 R.2.2) w e w' := by
  intro n
  induction n using Nat.strongRecOn with
  | ind n ih =>
    intro l v w o zs why hl hn hok h hst hp
    obtain ⟨a, rfl⟩ : ∃ a, pv = .pointer a := by
      rcases h.2 with ⟨rfl, _⟩ | ⟨b, rfl, _⟩
      · exact ⟨_, rfl⟩
      · exact ⟨_, rfl⟩
    by_cases h0 : l.length = 0
    · have hl0 := List.length_eq_zero_iff.1 h0
      subst hl0
      obtain ⟨p, c, rfl⟩ : ∃ p c, v = .slice p 0 c := by
        rcases hp with ⟨_, h⟩ | ⟨g, off, c, h, _⟩
        · exact h
        · exact ⟨_, c, h⟩
      have HF : Hid (∃ R, OX room zs why n (mkT []) R ∧ BP B (.pointer a) o root had room R.1 R.2.1 (.int .i64 R.2.2) w (.returned (.int .i64 0)) w) := Lib.hid (by
        rw [mkT_nil, ← hl]
        rcases hst with rfl | ⟨rfl, hf⟩
        · exact ⟨(zs, 0, 0), .inl ⟨rfl, [], by simp, .inl ⟨rfl, rfl, rfl⟩⟩, (BS.start h).done _⟩
        · exact ⟨(zs, 2, 0), .inr ⟨rfl, hf, rfl⟩, (BS.start h).done _⟩)
      clear hok h hst hp hl ih
      go_enter Try.func62, Try.ntmps62
      go_wp2
      go_ret
      exact HF.out
    · rcases hp with ⟨h1, _⟩ | ⟨g, off, c, rfl, hlc, hg, hF, hcells⟩
      · exact absurd (by rw [h1]; rfl) h0
      have hmid : l.length / 2 < l.length := by omega
      have P0 := Lib.hid (PL.cut (w := w) (F := BF B (.pointer a) o) hlc hg hF hcells (Nat.le_of_lt hmid))
      have P1 := Lib.hid (PL.rest (w := w) (F := BF B (.pointer a) o) hlc hg hF hcells (n := l.length / 2 + 1) (by omega))
      have hpk := hok (l.getD (l.length / 2) Pai.zero) (by rw [List.getD_eq_getElem?_getD, List.getElem?_eq_getElem hmid]; exact List.getElem_mem hmid)
      obtain ⟨ck, cv⟩ := hcells _ hmid
      have HT : Hid (mkT l = .node (mkT (l.take (l.length / 2))) (l.getD (l.length / 2) Pai.zero).k (l.getD (l.length / 2) Pai.zero).v (mkT (l.drop (l.length / 2 + 1)))) := Lib.hid (mkT_node (by omega))
      have hs1 := mkT_size (l.take (l.length / 2))
      have hs2 := mkT_size (l.drop (l.length / 2 + 1))
      have IH1 : Hid (∀ (X : World) (o' : Option Nat), BI X B (.pointer a) o' root had room zs why → PL X (.slice (some ⟨g, off, none⟩) (l.length / 2) c) (l.take (l.length / 2)) (BF B (.pointer a) o') → Calls Try.prog 62 #[.pointer (some ⟨B, 0, none⟩), .slice (some ⟨g, off, none⟩) (l.length / 2) c] X fun e w' => ∃ R, OX room zs why (l.length / 2) (mkT (l.take (l.length / 2))) R ∧ BP B (.pointer a) o' root had room R.1 R.2.1 (.int .i64 R.2.2) X e w') := Lib.hid fun X o' hX hP => ih _ (by omega) _ _ X o' zs why (by rw [List.length_take]; omega) (by omega) (fun p hp => hok p (List.mem_of_mem_take hp)) hX hst hP
      have IH2 : Hid (∀ (X : World) (o' : Option Nat) (zs1 : List Cel) (why1 : Int), BI X B (.pointer a) o' root had room zs1 why1 → (why1 = 0 ∨ (why1 = 2 ∧ zs1.length = room)) → PL X (.slice (some ⟨g, (if c = l.length / 2 + 1 then off else off + (l.length / 2 + 1) * 2), none⟩) (l.length - (l.length / 2 + 1)) (c - (l.length / 2 + 1))) (l.drop (l.length / 2 + 1)) (BF B (.pointer a) o') → Calls Try.prog 62 #[.pointer (some ⟨B, 0, none⟩), .slice (some ⟨g, (if c = l.length / 2 + 1 then off else off + (l.length / 2 + 1) * 2), none⟩) (l.length - (l.length / 2 + 1)) (c - (l.length / 2 + 1))] X fun e w' => ∃ R, OX room zs1 why1 (l.length - (l.length / 2 + 1)) (mkT (l.drop (l.length / 2 + 1))) R ∧ BP B (.pointer a) o' root had room R.1 R.2.1 (.int .i64 R.2.2) X e w') := Lib.hid fun X o' zs1 why1 hX hs hP => ih _ (by omega) _ _ X o' zs1 why1 (by rw [List.length_drop]) (by omega) (fun p hp => hok p (List.mem_of_mem_drop hp)) hX hs hP
      have J0 : Hid (BS B (.pointer a) root had room w o w o zs why []) := Lib.hid (BS.start h)
      have hle := h.2.le
      rw [HT.out]
      have HFg := Lib.hid hF
      clear ih hst hok h HT hcells hF
      rw [List.length_take, Nat.min_eq_left (Nat.le_of_lt hmid)] at hs1
      rw [List.length_drop] at hs2
      generalize l.getD (l.length / 2) Pai.zero = pk at hpk ck cv ⊢
      generalize l.take (l.length / 2) = l1 at *
      generalize l.drop (l.length / 2 + 1) = l2 at *
      generalize hm : l.length / 2 = m at *
      generalize l.length = len at *
      subst hl
      have hml : m ≤ len := by omega
      have hml1 : m + 1 ≤ len := by omega
      have h0' : ((len : Int) == 0) = false := by rw [beq_eq_false_iff_ne]; omega
      have hmi : (m : Int) < (len : Int) := by omega
      have hmb : -9223372036854775808 ≤ (m : Int) ∧ (m : Int) ≤ 9223372036854775807 := by omega
      have hw1 : IntKind.i64.wrap ((m : Int) + 1) = (m : Int) + 1 := IntWalk.i64_in _ (by omega)
      have hq2 : (len : Int) / 2 = (m : Int) := by rw [half_div, hm]
      have hq : wrap64 ((len : Int) / 2) = (m : Int) := by rw [hq2]; exact IntWalk.wrap64_in _ hmb
      obtain ⟨off2, ho2⟩ : ∃ off2, off2 = if c = m + 1 then off else off + (m + 1) * 2 := ⟨_, rfl⟩
      rw [← ho2] at P1 IH2
      have hs1' := slice_hd g off len c m hml hlc
      have hs2' := slice_tl g off len c m hml1
      rw [← ho2] at hs2'
      have HS := Lib.hid (And.intro hs1 hs2)
      have HPK := Lib.hid hpk
      have HLE := Lib.hid hle
      have HLC := Lib.hid (And.intro hlc (And.intro hml1 hn))
      clear hm h0 ho2 hq2 hmid hs1 hs2 hpk hle hlc hml hml1 hn hmb
      go_enter Try.func62, Try.ntmps62
      go_upto_region 4 with fail
      have JD1 := Lib.hid J0.out.drew
      refine wp_region_held_drew (S := (fun X => True)) (by kernel_rfl) (trivial) (fun hHeld0 => ?_)
      refine wpAnyH_take (i := 0) (v := ?_) rfl (by kernel_rfl) (by kernel_rfl) (by kernel_rfl) (fun _ _ _ h => h) (Or.inl ⟨by rfl, ?yaa1⟩) (by assumption) ?qaa1
      case yaa1 => (intro wz hSw; (try dsimp only at hSw); go_simp <;> with_reducible rfl)
      try simp only [Act.put, List.getElem_toArray, List.getElem_cons_zero, List.setIfInBounds_toArray, List.set_cons_zero, List.set_cons_succ]
      refine wpAnyH_take (i := 1) (v := ?_) rfl (by kernel_rfl) (by kernel_rfl) (by kernel_rfl) (fun _ _ _ h => h) (Or.inl ⟨by rfl, ?yaa2⟩) (by assumption) ?qaa2
      case yaa2 => (intro wz hSw; (try dsimp only at hSw); go_simp <;> with_reducible rfl)
      try simp only [Act.put, List.getElem_toArray, List.getElem_cons_zero, List.getElem_cons_succ, List.setIfInBounds_toArray, List.set_cons_zero, List.set_cons_succ]
      refine wpAnyH_take (i := 2) (v := ?_) rfl (by kernel_rfl) (by kernel_rfl) (by kernel_rfl) (fun _ _ _ h => h) (Or.inl ⟨by rfl, ?yaa3⟩) (by assumption) ?qaa3
      case yaa3 => (intro wz hSw; (try dsimp only at hSw); go_simp <;> with_reducible rfl)
      try simp only [Act.put, List.getElem_toArray, List.getElem_cons_zero, List.getElem_cons_succ, List.setIfInBounds_toArray, List.set_cons_zero, List.set_cons_succ]
      refine wpAnyH_take (i := 3) (v := ?_) rfl (by kernel_rfl) (by kernel_rfl) (by kernel_rfl) (fun _ _ _ h => h) (Or.inl ⟨by rfl, ?yaa4⟩) (by assumption) ?qaa4
      case yaa4 => (intro wz hSw; (try dsimp only at hSw); go_simp <;> with_reducible rfl)
      try simp only [Act.put, List.getElem_toArray, List.getElem_cons_zero, List.getElem_cons_succ, List.setIfInBounds_toArray, List.set_cons_zero, List.set_cons_succ]
      refine wpAnyH_take (i := 5) (v := ?_) rfl (by kernel_rfl) (by kernel_rfl) (by kernel_rfl) (fun _ _ _ h => h) (Or.inl ⟨by rfl, ?yaa5⟩) (by assumption) ?qaa5
      case yaa5 => (intro wz hSw; (try dsimp only at hSw); go_simp <;> with_reducible rfl)
      try simp only [Act.put, List.getElem_toArray, List.getElem_cons_zero, List.getElem_cons_succ, List.setIfInBounds_toArray, List.set_cons_zero, List.set_cons_succ]
      refine wpAnyH_take (i := 6) (v := ?_) rfl (by kernel_rfl) (by kernel_rfl) (by kernel_rfl) (fun _ _ _ h => h) (Or.inl ⟨by rfl, ?yaa6⟩) (by assumption) ?qaa6
      case yaa6 => (intro wz hSw; (try dsimp only at hSw); go_simp <;> with_reducible rfl)
      try simp only [Act.put, List.getElem_toArray, List.getElem_cons_zero, List.getElem_cons_succ, List.setIfInBounds_toArray, List.set_cons_zero, List.set_cons_succ]
      refine wpAnyH_take (i := 7) (v := ?_) rfl (by kernel_rfl) (by kernel_rfl) (by kernel_rfl) (fun _ _ _ h => h) (Or.inl ⟨by rfl, ?yaa7⟩) (by assumption) ?qaa7
      case yaa7 => (intro wz hSw; (try dsimp only at hSw); go_simp <;> with_reducible rfl)
      try simp only [Act.put, List.getElem_toArray, List.getElem_cons_zero, List.getElem_cons_succ, List.setIfInBounds_toArray, List.set_cons_zero, List.set_cons_succ]
      refine wpAnyH_take (i := 8) (v := ?_) rfl (by kernel_rfl) (by kernel_rfl) (by kernel_rfl) (fun _ _ _ h => h) (Or.inl ⟨by rfl, ?yaa8⟩) (by assumption) ?qaa8
      case yaa8 => (intro wz hSw; (try dsimp only at hSw); go_simp <;> with_reducible rfl)
      try simp only [Act.put, List.getElem_toArray, List.getElem_cons_zero, List.getElem_cons_succ, List.setIfInBounds_toArray, List.set_cons_zero, List.set_cons_succ]
      refine wpAnyH_take (i := 9) (v := ?_) rfl (by kernel_rfl) (by kernel_rfl) (by kernel_rfl) (fun _ _ _ h => h) (Or.inl ⟨by rfl, ?yaa9⟩) (by assumption) ?qaa9
      case yaa9 => (intro wz hSw; (try dsimp only at hSw); go_simp <;> with_reducible rfl)
      try simp only [Act.put, List.getElem_toArray, List.getElem_cons_zero, List.getElem_cons_succ, List.setIfInBounds_toArray, List.set_cons_zero, List.set_cons_succ]
      refine wpAnyH_ready (rs := [4]) (by kernel_rfl) (by simp) ?_
      refine AllReadyH.cons rfl (fun K hK => ?_) AllReadyH.nil
      go_simp
      refine (IH1.out _ _ JD1.out.bi (JD1.out.pl P0.out)).mono ?_
      rintro e wn2 ⟨R1, hR1, hsn2⟩
      obtain ⟨rfl, on2, Jn2⟩ := JD1.out.call hsn2
      have HX1 := Lib.hid hR1
      clear hsn2 hR1
      obtain ⟨zs1, why1, i1⟩ := R1
      simp only at HX1 Jn2 ⊢
      try go_wp2_with fail
      refine hK.out _ _ (trivial) (fun hHeld10 => ?_)
      clear hK K
      try simp only [Act.put, List.getElem_toArray, List.getElem_cons_zero, List.getElem_cons_succ, List.setIfInBounds_toArray, List.set_cons_zero, List.set_cons_succ]
      refine wpAnyH_ready (rs := [10]) (by kernel_rfl) (by simp) ?_
      refine AllReadyH.cons rfl (fun K hK => ?_) AllReadyH.nil
      go_simp
      refine (IH2.out _ _ zs1 why1 Jn2.out.bi HX1.out.st.1 (Jn2.out.pl P1.out)).mono ?_
      rintro e wn3 ⟨R2, hR2, hsn3⟩
      obtain ⟨rfl, on3, Jn3⟩ := Jn2.out.call hsn3
      have HX2 := Lib.hid hR2
      clear hsn3 hR2
      obtain ⟨zs2, why2, i2⟩ := R2
      simp only at HX2 Jn3 ⊢
      try go_wp2_with fail
      refine hK.out _ _ (trivial) (fun hHeld11 => ?_)
      clear hK K
      try simp only [Act.put, List.getElem_toArray, List.getElem_cons_zero, List.getElem_cons_succ, List.setIfInBounds_toArray, List.set_cons_zero, List.set_cons_succ]
      refine wpAnyH_take (i := 11) (v := ?_) rfl (by kernel_rfl) (by kernel_rfl) (by kernel_rfl) (fun _ _ _ h => h) (Or.inl ⟨by rfl, ?yaa12⟩) (by assumption) ?qaa12
      case yaa12 => (intro wz hSw; (try dsimp only at hSw); go_simp <;> with_reducible rfl)
      try simp only [Act.put, List.getElem_toArray, List.getElem_cons_zero, List.getElem_cons_succ, List.setIfInBounds_toArray, List.set_cons_zero, List.set_cons_succ]
      refine wpAnyH_take (i := 12) (v := ?_) rfl (by kernel_rfl) (by kernel_rfl) (by kernel_rfl) (fun _ _ _ h => h) (Or.inl ⟨by rfl, ?yaa13⟩) (by assumption) ?qaa13
      case yaa13 => (intro wz hSw; (try dsimp only at hSw); go_simp <;> with_reducible rfl)
      try simp only [Act.put, List.getElem_toArray, List.getElem_cons_zero, List.getElem_cons_succ, List.setIfInBounds_toArray, List.set_cons_zero, List.set_cons_succ]
      refine wpAnyH_done (by kernel_rfl) ?_ _
      have hx2 := HX2.out.st
      have hx1 := HX1.out.st
      have hln := Jn3.out.bi.2.le
      simp only at hx1 hx2
      have HPut : Hid (∀ (X : World) (o' : Option Nat), BI X B (.pointer a) o' root had room zs2 why2 → Calls Try.prog 80 #[.pointer (some ⟨B, 0, none⟩), .agg #[.int .i64 i1, .int .i64 i2, .int .i64 pk.k, .int .i64 pk.v, .int .i64 0, .int .i64 0]] X (BP B (.pointer a) o' root had room (putM room zs2 why2 ⟨i1, i2, pk.k, pk.v, 0, 0⟩).1 (putM room zs2 why2 ⟨i1, i2, pk.k, pk.v, 0, 0⟩).2.1 (.int .i64 (putM room zs2 why2 ⟨i1, i2, pk.k, pk.v, 0, 0⟩).2.2) X)) := Lib.hid fun X o' hX => bput _ hX (by unfold fitC; simp only; omega) (by have h := HPK.out; unfold Cel.ok; unfold Pai.ok at h; simp only; omega)
      have HC := Lib.hid (all_comb (k := pk.k) (v := pk.v) HX1.out HX2.out (by have := HS.out.1; have := HLC.out; omega) (by have := HS.out.2; have := HLC.out; omega) (by simp only; omega))
      generalize putM room zs2 why2 ⟨i1, i2, pk.k, pk.v, 0, 0⟩ = q at HC HPut
      obtain ⟨zs3, why3, i3⟩ := q
      simp only at HC HPut
      clear hx1 hx2 hln
      have hgl := hg
      go_upto_region 5 with fail
      have JE0 := Lib.hid Jn3.out.drew
      refine wp_region_held_drew (S := (fun X => X.cell? ⟨g, off + m * 2, none⟩ = some (.int .i64 pk.k) ∧ X.cell? ⟨g, off + m * 2 + 1, none⟩ = some (.int .i64 pk.v))) (by kernel_rfl) (⟨(JE0.out.oldcell hg HFg.out _).trans ck, (JE0.out.oldcell hg HFg.out _).trans cv⟩) (fun hHeld0 => ?_)
      refine wpAnyH_take (i := 0) (v := ?_) rfl (by kernel_rfl) (by kernel_rfl) (by kernel_rfl) (fun _ _ _ h => h) (Or.inl ⟨by rfl, ?yab1⟩) (by assumption) ?qab1
      case yab1 => (intro wz hSw; (try dsimp only at hSw); go_simp <;> with_reducible rfl)
      try simp only [Act.put, List.getElem_toArray, List.getElem_cons_zero, List.setIfInBounds_toArray, List.set_cons_zero, List.set_cons_succ]
      refine wpAnyH_take (i := 1) (v := ?_) rfl (by kernel_rfl) (by kernel_rfl) (by kernel_rfl) (fun _ _ _ h => h) (Or.inl ⟨by rfl, ?yab2⟩) (by assumption) ?qab2
      case yab2 => (intro wz hSw; (try dsimp only at hSw); go_simp <;> with_reducible rfl)
      try simp only [Act.put, List.getElem_toArray, List.getElem_cons_zero, List.getElem_cons_succ, List.setIfInBounds_toArray, List.set_cons_zero, List.set_cons_succ]
      refine wpAnyH_take (i := 2) (v := ?_) rfl (by kernel_rfl) (by kernel_rfl) (by kernel_rfl) (fun _ _ _ h => h) (Or.inl ⟨by rfl, ?yab3⟩) (by assumption) ?qab3
      case yab3 => (intro wz hSw; (try dsimp only at hSw); go_simp <;> with_reducible rfl)
      try simp only [Act.put, List.getElem_toArray, List.getElem_cons_zero, List.getElem_cons_succ, List.setIfInBounds_toArray, List.set_cons_zero, List.set_cons_succ]
      refine wpAnyH_take (i := 3) (v := ?_) rfl (by kernel_rfl) (by kernel_rfl) (by kernel_rfl) (fun _ _ _ h => h) (Or.inl ⟨by rfl, ?yab4⟩) (by assumption) ?qab4
      case yab4 => (intro wz hSw; (try dsimp only at hSw); go_simp <;> with_reducible rfl)
      try simp only [Act.put, List.getElem_toArray, List.getElem_cons_zero, List.getElem_cons_succ, List.setIfInBounds_toArray, List.set_cons_zero, List.set_cons_succ]
      refine wpAnyH_take (i := 4) (v := ?_) rfl (by kernel_rfl) (by kernel_rfl) (by kernel_rfl) (fun _ _ _ h => h) (Or.inl ⟨by rfl, ?yab5⟩) (by assumption) ?qab5
      case yab5 => (intro wz hSw; (try dsimp only at hSw); go_simp <;> with_reducible rfl)
      try simp only [Act.put, List.getElem_toArray, List.getElem_cons_zero, List.getElem_cons_succ, List.setIfInBounds_toArray, List.set_cons_zero, List.set_cons_succ]
      refine wpAnyH_take (i := 5) (v := ?_) rfl (by kernel_rfl) (by kernel_rfl) (by kernel_rfl) (fun _ _ _ h => h) (Or.inl ⟨by rfl, ?yab6⟩) (by assumption) ?qab6
      case yab6 => (intro wz hSw; (try dsimp only at hSw); go_simp <;> with_reducible rfl)
      try simp only [Act.put, List.getElem_toArray, List.getElem_cons_zero, List.getElem_cons_succ, List.setIfInBounds_toArray, List.set_cons_zero, List.set_cons_succ]
      refine wpAnyH_take (i := 6) (v := ?_) rfl (by kernel_rfl) (by kernel_rfl) (by kernel_rfl) (fun _ _ _ h => h) (Or.inl ⟨by rfl, ?yab7⟩) (by assumption) ?qab7
      case yab7 => (intro wz hSw; (try dsimp only at hSw); go_simp <;> with_reducible rfl)
      try simp only [Act.put, List.getElem_toArray, List.getElem_cons_zero, List.getElem_cons_succ, List.setIfInBounds_toArray, List.set_cons_zero, List.set_cons_succ]
      refine wpAnyH_take (i := 7) (v := ?_) rfl (by kernel_rfl) (by kernel_rfl) (by kernel_rfl) (fun _ _ _ h => h) (Or.inl ⟨by rfl, ?yab8⟩) (by assumption) ?qab8
      case yab8 => (intro wz hSw; (try dsimp only at hSw); go_simp <;> with_reducible rfl)
      try simp only [Act.put, List.getElem_toArray, List.getElem_cons_zero, List.getElem_cons_succ, List.setIfInBounds_toArray, List.set_cons_zero, List.set_cons_succ]
      refine wpAnyH_take (i := 8) (v := ?_) rfl (by kernel_rfl) (by kernel_rfl) (by kernel_rfl) (fun _ _ _ h => h) (Or.inl ⟨by rfl, ?yab9⟩) (by assumption) ?qab9
      case yab9 => (intro wz hSw; (try dsimp only at hSw); go_simp <;> with_reducible rfl)
      try simp only [Act.put, List.getElem_toArray, List.getElem_cons_zero, List.getElem_cons_succ, List.setIfInBounds_toArray, List.set_cons_zero, List.set_cons_succ]
      refine wpAnyH_take (i := 9) (v := ?_) rfl (by kernel_rfl) (by kernel_rfl) (by kernel_rfl) (fun _ _ _ h => h) (Or.inl ⟨by rfl, ?yab10⟩) (by assumption) ?qab10
      case yab10 => (intro wz hSw; (try dsimp only at hSw); go_simp <;> with_reducible rfl)
      try simp only [Act.put, List.getElem_toArray, List.getElem_cons_zero, List.getElem_cons_succ, List.setIfInBounds_toArray, List.set_cons_zero, List.set_cons_succ]
      refine wpAnyH_take (i := 10) (v := ?_) rfl (by kernel_rfl) (by kernel_rfl) (by kernel_rfl) (fun _ _ _ h => h) (Or.inl ⟨by rfl, ?yab11⟩) (by assumption) ?qab11
      case yab11 => (intro wz hSw; (try dsimp only at hSw); go_simp <;> with_reducible rfl)
      try simp only [Act.put, List.getElem_toArray, List.getElem_cons_zero, List.getElem_cons_succ, List.setIfInBounds_toArray, List.set_cons_zero, List.set_cons_succ]
      refine wpAnyH_take (i := 11) (v := ?_) rfl (by kernel_rfl) (by kernel_rfl) (by kernel_rfl) (fun _ _ _ h => h) (Or.inl ⟨by rfl, ?yab12⟩) (by assumption) ?qab12
      case yab12 => (intro wz hSw; (try dsimp only at hSw); go_simp <;> with_reducible rfl)
      try simp only [Act.put, List.getElem_toArray, List.getElem_cons_zero, List.getElem_cons_succ, List.setIfInBounds_toArray, List.set_cons_zero, List.set_cons_succ]
      refine wpAnyH_take (i := 12) (v := ?_) rfl (by kernel_rfl) (by kernel_rfl) (by kernel_rfl) (fun _ _ _ h => h) (Or.inl ⟨by rfl, ?yab13⟩) (by assumption) ?qab13
      case yab13 => (intro wz hSw; (try dsimp only at hSw); go_simp <;> with_reducible rfl)
      try simp only [Act.put, List.getElem_toArray, List.getElem_cons_zero, List.getElem_cons_succ, List.setIfInBounds_toArray, List.set_cons_zero, List.set_cons_succ]
      refine wpAnyH_take (i := 13) (v := ?_) rfl (by kernel_rfl) (by kernel_rfl) (by kernel_rfl) (fun _ _ _ h => h) (Or.inl ⟨by rfl, ?yab14⟩) (by assumption) ?qab14
      case yab14 => (intro wz hSw; (try dsimp only at hSw); go_simp <;> with_reducible rfl)
      try simp only [Act.put, List.getElem_toArray, List.getElem_cons_zero, List.getElem_cons_succ, List.setIfInBounds_toArray, List.set_cons_zero, List.set_cons_succ]
      refine wpAnyH_ready (rs := [14]) (by kernel_rfl) (by simp) ?_
      refine AllReadyH.cons rfl (fun K hK => ?_) AllReadyH.nil
      go_simp
      refine (HPut.out _ _ JE0.out.bi).mono ?_
      intro e wn4 hsn4
      obtain ⟨rfl, on4, Jn4⟩ := JE0.out.call hsn4
      clear hsn4
      try go_wp2_with fail
      refine hK.out _ _ (⟨(Jn4.out.oldcell hg HFg.out _).trans ck, (Jn4.out.oldcell hg HFg.out _).trans cv⟩) (fun hHeld15 => ?_)
      clear hK K
      try simp only [Act.put, List.getElem_toArray, List.getElem_cons_zero, List.getElem_cons_succ, List.setIfInBounds_toArray, List.set_cons_zero, List.set_cons_succ]
      refine wpAnyH_take (i := 15) (v := ?_) rfl (by kernel_rfl) (by kernel_rfl) (by kernel_rfl) (fun _ _ _ h => h) (Or.inl ⟨by rfl, ?yab16⟩) (by assumption) ?qab16
      case yab16 => (intro wz hSw; (try dsimp only at hSw); go_simp <;> with_reducible rfl)
      try simp only [Act.put, List.getElem_toArray, List.getElem_cons_zero, List.getElem_cons_succ, List.setIfInBounds_toArray, List.set_cons_zero, List.set_cons_succ]
      refine wpAnyH_done (by kernel_rfl) ?_ _
      go_wp2_with fail
      go_ret
      exact ⟨(zs3, why3, i3), by have h := HC.out; rwa [show m + (len - (m + 1)) + 1 = len by have := HLC.out; omega] at h, Jn4.out.done _⟩
end Go.Proofs.Ytpbkclciipmonaa.F
