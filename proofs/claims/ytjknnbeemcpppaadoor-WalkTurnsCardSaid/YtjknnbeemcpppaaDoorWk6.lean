/-
  Walks: contracts of both Simples. Not a statement of the seat.
-/
import Derived.Test.YtjknnbeemcpppaaDoorWkS
import Derived.Test.YtjknnbeemcpppaaDoorMp
namespace Go.Proofs.YtjknnbeemcpppaaDoor.Wk
open Go.ChangeShapes Go.WideShapes Go.ChangeAt Go.RowKit Base Pk F
theorem keyed : Maps.Keyed Tryd.prog 3 := Maps.int_keyed Tryd.underlying3
theorem zeroBool (w : World) : (zeroValue 4).run Tryd.prog w = .ok (.bool false) w := by kernel_rfl
/-- The ids among zs, in block b. -/
abbrev Met (w : World) (b n : Nat) (zs : List Int) : Prop := Mp.MB Tryd.prog 3 4 (Value.int .i64) w b n (fun y => decide (y ∈ zs))
theorem met_look {w : World} {b n : Nat} {zs : List Int} (h : Met w b n zs) (x : Int) (hx : -9223372036854775808 ≤ x ∧ x ≤ 9223372036854775807) : (Instr.lookup 33 (.map (some b)) (.int .i64 x) false).run Tryd.prog w = .ok (.bool (decide (x ∈ zs))) w :=
  h.look keyed Tryd.underlying33 Tryd.underlying4 (zeroBool w) x (Mp.key_int Tryd.underlying3 hx)
theorem met_made {w : World} {b : Nat} (h : w.heap[b]? = some (.map #[] 0)) : Met w b 0 [] := (Mp.MB.made h).ext fun x => by simp
theorem met_store {w : World} {ops : Array Oper} {rest : List Oper} {o : Oper} {a : Act} {Q : Exit → Act → World → Prop} {b n : Nat} (hgd : o.guard = none) (m x v : Operand) (hop : o.op = Op.mapUpdate 33 m x v) {zs : List Int} (h : Met w b n zs) (hn : n < maxLen)
    (hm : a.eval m = .map (some b)) (y : Int) (hx : a.eval x = .int .i64 y) (hy : -9223372036854775808 ≤ y ∧ y ≤ 9223372036854775807) (hv : a.eval v = .bool true)
    (hK : ∀ w', Met w' b (n + 1) (zs ++ [y]) → w.grownBy w' (some b) → wpList Tryd.prog ops Q rest (a.put o.dst undef) w') : wpList Tryd.prog ops Q (o :: rest) a w :=
  Mp.wp_store keyed Tryd.underlying33 Tryd.underlying4 hgd m x v hop h hn hm y hx (Mp.key_int Tryd.underlying3 hy) true hv (fun z => decide (z ∈ zs ++ [y])) (fun z e => by simp [Mp.int_inj e]) (fun z e => by
    have : z ≠ y := fun e2 => e (by rw [e2])
    simp [this]) hK
/-- What an edge's numbers are. -/
def inN (x : Int) : Prop := -9223372036854775808 ≤ x ∧ x ≤ 9223372036854775807
def InE (l : List E) : Prop := ∀ i, inN (l.getD i zE).1 ∧ inN (l.getD i zE).2.1 ∧ inN (l.getD i zE).2.2.1 ∧ inN (l.getD i zE).2.2.2
def fromL (l : List E) : List Int := l.map fun x => x.1
theorem from_snoc (l : List E) (k : Nat) (hk : k < l.length) : fromL (l.take (k + 1)) = fromL (l.take k) ++ [(l.getD k zE).1] := by
  unfold fromL
  rw [List.take_add_one, List.getElem?_eq_getElem hk, List.map_append]
  simp [hk]
def simpleL (l : List E) : Bool := decide (fromL l).Nodup
theorem simple_bad (l : List E) (k : Nat) (hk : k < l.length) (h : (l.getD k zE).1 ∈ fromL (l.take k)) : simpleL l = false := by
  refine decide_eq_false fun hn => ?_
  have h1 : (fromL (l.take (k + 1))).Nodup := by
    have : fromL l = fromL (l.take (k + 1)) ++ fromL (l.drop (k + 1)) := by unfold fromL; rw [← List.map_append, List.take_append_drop]
    rw [this] at hn
    exact (List.nodup_append.1 hn).1
  rw [from_snoc l k hk, List.nodup_append] at h1
  exact h1.2.2 _ h _ (List.mem_singleton.2 rfl) rfl
theorem simple_ok (l : List E) (k : Nat) (hk : k < l.length) (h0 : (fromL (l.take k)).Nodup) (h : (l.getD k zE).1 ∉ fromL (l.take k)) : (fromL (l.take (k + 1))).Nodup := by
  rw [from_snoc l k hk, List.nodup_append]
  refine ⟨h0, by simp, fun a ha b hb e => ?_⟩
  rw [List.mem_singleton] at hb
  rw [e, hb] at ha
  exact h ha
theorem simple_end (l : List E) (h : (fromL (l.take l.length)).Nodup) : simpleL l = true := by
  rw [List.take_length] at h
  exact decide_eq_true h
theorem mem_from (l : List E) (k : Nat) (hk : k ≤ l.length) (x : Int) : x ∈ fromL (l.take k) ↔ ∃ t, t < k ∧ (l.getD t zE).1 = x := by
  unfold fromL
  rw [List.mem_map]
  constructor
  · rintro ⟨e, he, rfl⟩
    obtain ⟨t, ht, e1⟩ := List.mem_iff_getElem.1 he
    have h1 : t < k := by rw [List.length_take] at ht; omega
    refine ⟨t, h1, ?_⟩
    rw [← e1, List.getElem_take]
    simp [show t < l.length by omega]
  · rintro ⟨t, ht, rfl⟩
    refine ⟨l.getD t zE, ?_, rfl⟩
    have h1 : t < l.length := by omega
    rw [List.mem_take_iff_getElem]
    exact ⟨t, by omega, by simp [h1]⟩
set_option maxRecDepth 100000 in
set_option maxHeartbeats 4000000 in
theorem simple_any {v : Value} {l : List E} {n : Nat} (w : World) (h : Eds w v l) (hn : l.length = n) (hl : n ≤ 1000) (hin : InE l) : Calls Tryd.prog 8 #[v] w (BoolP (simpleL l) w) := by
  obtain ⟨p, c, rfl, hc⟩ := eds_at h hn
  have HC := Lib.hid hc
  have HIN := Lib.hid hin
  have HBAD : Hid (∀ k, k < n → (l.getD k zE).1 ∈ fromL (l.take k) → simpleL l = false) := Lib.hid fun k hk => simple_bad l k (by omega)
  have HOK : Hid (∀ k, k < n → (fromL (l.take k)).Nodup → (l.getD k zE).1 ∉ fromL (l.take k) → (fromL (l.take (k + 1))).Nodup) := Lib.hid fun k hk => simple_ok l k (by omega)
  have HSN : Hid (∀ k, k < n → fromL (l.take (k + 1)) = fromL (l.take k) ++ [(l.getD k zE).1]) := Lib.hid fun k hk => from_snoc l k (by omega)
  have HEND : Hid ((fromL (l.take n)).Nodup → simpleL l = true) := Lib.hid fun h => simple_end l (by rw [hn]; exact h)
  have H0 : Hid (fromL (l.take 0) = []) := Lib.hid (by simp [fromL])
  have hni : (n : Int) ≤ 1000 := by omega
  clear h hc hn
  generalize simpleL l = r at HBAD HEND ⊢
  go_enter Tryd.func8, Tryd.ntmps8
  have hmm := @run_makeMap Tryd.prog
  go_wp2_with fail
  go_loopw [9] (fun s9 wr => ∃ k : Nat, s9 = .int .i64 (k : Int) ∧ k ≤ n ∧ Hid ((fromL (l.take k)).Nodup ∧ Met wr w.heap.size k (fromL (l.take k)) ∧ Below w.heap.size w wr)) (fun s9 _ => n - (intOf s9).toNat)
  case atStart => exact ⟨0, rfl, Nat.zero_le _, Lib.hid ⟨by rw [H0.out]; exact List.nodup_nil, by rw [H0.out]; exact met_made (heap_alloc_at _ _ _ rfl), alloc_bel _ _⟩⟩
  case round =>
    obtain ⟨k, rfl, hk, HI⟩ := hrel
    by_cases hlt : k < n
    · have hii : (k : Int) < (n : Int) := by omega
      obtain ⟨g, o, rfl, hcl⟩ := HC.out k hlt
      obtain ⟨hg, a0, a1, a2, a3⟩ := hcl wr HI.out.2.2
      have hbx := (HIN.out k).1
      have HJ : Hid (((l.getD k zE).1 ∈ fromL (l.take k) → r = false) ∧ ((l.getD k zE).1 ∉ fromL (l.take k) → (fromL (l.take (k + 1))).Nodup) ∧ fromL (l.take (k + 1)) = fromL (l.take k) ++ [(l.getD k zE).1]) := Lib.hid ⟨HBAD.out k hlt, HOK.out k hlt HI.out.1, HSN.out k hlt⟩
      generalize l.getD k zE = x at a0 a1 a2 a3 HJ hbx
      obtain ⟨x0, x1, x2, x3⟩ := x
      dsimp only at a0 a1 a2 a3 HJ hbx
      unfold inN at hbx
      obtain ⟨wq, hwq⟩ : ∃ X, X = wr.alloc (boxE (x0, x1, x2, x3)) := ⟨_, rfl⟩
      have hbx2 : wq.heap[wr.heap.size]? = some (boxE (x0, x1, x2, x3)) := by rw [hwq]; exact heap_alloc_at _ _ _ rfl
      have hbq : Below wr.heap.size wr wq := by rw [hwq]; exact alloc_bel wr _
      have HM : Hid (Met wq w.heap.size k (fromL (l.take k)) ∧ Below w.heap.size w wq) := Lib.hid ⟨HI.out.2.1.below hbq, HI.out.2.2.trans (hbq.mono HI.out.2.2.size)⟩
      have hrun := met_look HM.out.1 x0 hbx
      unfold boxE at hwq
      dsimp only at hwq
      clear hcl hbx2 hbq HI
      subst hwq
      by_cases h3 : x0 ∈ fromL (l.take k)
      · rw [decide_eq_true h3] at hrun
        have hr : r = false := HJ.out.1 h3
        subst hr
        have HW := Lib.hid HM.out.2
        clear HJ h3 HM
        go_wp2
        go_ret
        exact ⟨rfl, HW.out⟩
      · rw [decide_eq_false h3] at hrun
        have HX := Lib.hid (And.intro (HJ.out.2.1 h3) HJ.out.2.2)
        clear HJ h3
        go_wp2_with (at_mapUpdate; refine met_store rfl _ _ _ rfl HM.out.1 (by simp only [maxLen]; omega) rfl x0 rfl hbx rfl ?_; intro w1 hm1 hg1; have HM1 := Lib.hid hm1; have HG1 := Lib.hid hg1; clear hm1 hg1 hrun)
        go_roundw
        case rel => exact ⟨k + 1, by go_num, by omega, Lib.hid ⟨HX.out.1, by rw [HX.out.2]; exact HM1.out, HM.out.2.grown HG1.out HM.out.2.size (fun j hj => by cases hj; exact Nat.le_refl _)⟩⟩
        case measure => simp [intOf]; omega
    · have hin : k = n := by omega
      subst hin
      have hr : r = true := HEND.out HI.out.1
      subst hr
      have HB := Lib.hid HI.out.2.2
      have hii : ¬ (k : Int) < (k : Int) := by omega
      clear HI hlt
      go_wp2
      go_ret
      exact ⟨rfl, HB.out⟩
set_option maxRecDepth 100000 in
set_option maxHeartbeats 4000000 in
theorem rsimple_any {v : Value} {l : List E} {n : Nat} (w : World) (h : Eds w v l) (hn : l.length = n) (hl : n ≤ 1000) (hcp : Capd v) : Calls Tryd.prog 9 #[v] w (BoolP (simpleL l) w) := by
  obtain ⟨p, c, rfl, hc⟩ := eds_at h hn
  have HC := Lib.hid hc
  have hcap : n ≤ c := (hcp _ _ _ rfl).1
  have HBAD : Hid (∀ k j, k < n → j < k → (l.getD k zE).1 = (l.getD j zE).1 → simpleL l = false) := Lib.hid fun k j hk hj e => simple_bad l k (by omega) ((mem_from l k (by omega) _).2 ⟨j, hj, e.symm⟩)
  have HOK : Hid (∀ k, k < n → (fromL (l.take k)).Nodup → (∀ j, j < k → (l.getD k zE).1 ≠ (l.getD j zE).1) → (fromL (l.take (k + 1))).Nodup) := Lib.hid fun k hk h1 h2 => simple_ok l k (by omega) h1 fun hm => by
    obtain ⟨t, ht, e⟩ := (mem_from l k (by omega) _).1 hm
    exact h2 t ht e.symm
  have HEND : Hid ((fromL (l.take n)).Nodup → simpleL l = true) := Lib.hid fun h => simple_end l (by rw [hn]; exact h)
  have H0 : Hid (fromL (l.take 0) = []) := Lib.hid (by simp [fromL])
  have hni : (n : Int) ≤ 1000 := by omega
  clear h hc hn hcp
  generalize simpleL l = r at HBAD HEND ⊢
  go_enter Tryd.func9, Tryd.ntmps9
  go_wp2_with fail
  go_loopw [9] (fun s9 wr => ∃ k : Nat, s9 = .int .i64 (k : Int) ∧ k ≤ n ∧ Hid ((fromL (l.take k)).Nodup ∧ Below w.heap.size w wr)) (fun s9 _ => n - (intOf s9).toNat)
  case atStart => exact ⟨0, rfl, Nat.zero_le _, Lib.hid ⟨by rw [H0.out]; exact List.nodup_nil, Below.refl _ _⟩⟩
  case round =>
    obtain ⟨k, rfl, hk, HI⟩ := hrel
    by_cases hlt : k < n
    · have hii : (k : Int) < (n : Int) := by omega
      obtain ⟨g, o, rfl, hcl⟩ := HC.out k hlt
      obtain ⟨hg, a0, a1, a2, a3⟩ := hcl wr HI.out.2
      have HJ : Hid ((∀ j, j < k → (l.getD k zE).1 = (l.getD j zE).1 → r = false) ∧ ((∀ j, j < k → (l.getD k zE).1 ≠ (l.getD j zE).1) → (fromL (l.take (k + 1))).Nodup)) := Lib.hid ⟨fun j hj => HBAD.out k j hlt hj, HOK.out k hlt HI.out.1⟩
      generalize l.getD k zE = x at a0 a1 a2 a3 HJ
      obtain ⟨x0, x1, x2, x3⟩ := x
      dsimp only at a0 a1 a2 a3 HJ
      obtain ⟨wq, hwq⟩ : ∃ X, X = wr.alloc (boxE (x0, x1, x2, x3)) := ⟨_, rfl⟩
      have HX : Hid (wq.heap[wr.heap.size]? = some (boxE (x0, x1, x2, x3))) := Lib.hid (by rw [hwq]; exact heap_alloc_at _ _ _ rfl)
      have hbq : Below wr.heap.size wr wq := by rw [hwq]; exact alloc_bel wr _
      have HW : Hid (Below w.heap.size w wq) := Lib.hid (HI.out.2.trans (hbq.mono HI.out.2.size))
      have HS1 : Hid (wr.heap.size + 1 = wq.heap.size) := Lib.hid (by rw [hwq]; simp)
      unfold boxE at hwq
      dsimp only at hwq
      have hs := slice_take (some ⟨g, o, none⟩) n c k (by omega)
      clear hcl hbq HI
      go_upto_region 4 with fail
      rw [← hwq]
      clear hwq HS1 a0 a1 a2 a3 hg
      generalize wr.heap.size = gx at HX ⊢
      clear wr
      go_wp2_with fail
      go_loopw [18] (fun s18 wr => ∃ j : Nat, s18 = .int .i64 (j : Int) ∧ j ≤ k ∧ Hid ((∀ t, t < j → x0 ≠ (l.getD t zE).1) ∧ Below wq.heap.size wq wr)) (fun s18 _ => k - (intOf s18).toNat)
      case atStart => exact ⟨0, rfl, Nat.zero_le _, Lib.hid ⟨fun t ht => absurd ht (Nat.not_lt_zero _), Below.refl _ _⟩⟩
      case round =>
        obtain ⟨j, rfl, hj, HI⟩ := hrel
        by_cases hjk : j < k
        · have hjj : (j : Int) < (k : Int) := by omega
          obtain ⟨g', o', he, hcl⟩ := HC.out j (by omega)
          injection he with he
          injection he with e1 e2
          subst e1 e2
          obtain ⟨hg', b0, b1, b2, b3⟩ := hcl wr (HW.out.trans (HI.out.2.mono HW.out.size))
          have hbx := keep_block HI.out.2 HX.out
          obtain ⟨d0, _⟩ := boxE_at hbx
          have hlq := heap_lt hbx
          have HL : Hid (gx < wr.heap.size) := Lib.hid hlq
          have HJJ : Hid ((x0 = (l.getD j zE).1 → r = false) ∧ (x0 ≠ (l.getD j zE).1 → ∀ t, t < j + 1 → x0 ≠ (l.getD t zE).1)) := Lib.hid ⟨HJ.out.1 j hjk, fun hne t ht => by
            by_cases e : t = j
            · rw [e]; exact hne
            · exact HI.out.1 t (by omega)⟩
          have HB := Lib.hid HI.out.2
          generalize l.getD j zE = y at b0 b1 b2 b3 HJJ
          obtain ⟨y0, y1, y2, y3⟩ := y
          dsimp only at b0 b1 b2 b3 HJJ d0
          have c0 : ∀ ob, (wr.alloc ob).cell? ⟨gx, 0, none⟩ = some (.int .i64 x0) := fun ob => ((alloc_bel wr ob).cell (p := ⟨gx, 0, none⟩) HL.out).trans d0
          have c0 := c0 (.cells #[.int .i64 y0, .int .i64 y1, .int .i64 y2, .int .i64 y3] 32)
          clear hcl hbx HI
          by_cases hxy : x0 = y0
          · have hr : r = false := HJJ.out.1 hxy
            have hb : (x0 == y0) = true := by rw [beq_iff_eq]; exact hxy
            have HF : Hid (∀ ob, Below w.heap.size w (wr.alloc ob)) := Lib.hid fun ob => HW.out.trans ((HB.out.trans ((alloc_bel wr ob).mono HB.out.size)).mono HW.out.size)
            subst hr
            clear hxy HJJ HJ
            go_wp2
            go_ret
            exact ⟨rfl, HF.out _⟩
          · have hb : (x0 == y0) = false := by rw [beq_eq_false_iff_ne]; exact hxy
            have HN := Lib.hid (HJJ.out.2 hxy)
            have HF : Hid (∀ ob, Below wq.heap.size wq (wr.alloc ob)) := Lib.hid fun ob => HB.out.trans ((alloc_bel wr ob).mono HB.out.size)
            clear hxy HJJ
            go_wp2_with fail
            go_roundw
            case rel => exact ⟨j + 1, by go_num, by omega, Lib.hid ⟨HN.out, HF.out _⟩⟩
            case measure => simp [intOf]; omega
        · have hjk' : j = k := by omega
          subst hjk'
          have HN := Lib.hid (HJ.out.2 HI.out.1)
          have HF : Hid (Below w.heap.size w wr) := Lib.hid (HW.out.trans (HI.out.2.mono HW.out.size))
          have hjj : ¬ (j : Int) < (j : Int) := by omega
          clear HI hjk HJ
          go_wp2_with fail
          go_roundw
          case rel => exact ⟨j + 1, by go_num, by omega, Lib.hid ⟨HN.out, HF.out⟩⟩
          case measure => simp [intOf]; omega
    · have hin : k = n := by omega
      subst hin
      have hr : r = true := HEND.out HI.out.1
      subst hr
      have HB := Lib.hid HI.out.2
      have hii : ¬ (k : Int) < (k : Int) := by omega
      clear HI hlt
      go_wp2
      go_ret
      exact ⟨rfl, HB.out⟩
end Go.Proofs.YtjknnbeemcpppaaDoor.Wk
