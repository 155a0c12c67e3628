/-
  Contracts of small functions, several texts laid into one. Not a statement of the seat.
-/
import Derived.Test.YtmgkpabagpgilaaHead15
import Derived.Lib.SlicesCompact
import Derived.Deep.LoopGhost
import Derived.Laws.StructEq
import Derived.Test.YtmgkpabagpgilaaHead1
namespace Go.Proofs.Ytmgkpabagpgilaa.Pk
open Go.ChangeShapes Go.WideShapes Go.ChangeAt Go.RowKit Base Go.Shelf Go.Lib Go.Sort
theorem eqE (x y : E) (w : World) : (binOp .eql 33 (.agg #[.int .i64 x.1, .int .i64 x.2.1, .int .i64 x.2.2.1, .int .i64 x.2.2.2]) (.agg #[.int .i64 y.1, .int .i64 y.2.1, .int .i64 y.2.2.1, .int .i64 y.2.2.2])).run Try.prog w = .ok (.bool (decide (x = y))) w := by
  have u3 := Try.underlying3
  have a3 := Try.isAgg3
  have z3 := Try.sizeOf3
  have hS : Try.prog.underlying 33 = some (.struct (Try.prog.fieldsOf 33)) := by kernel_rfl
  have hp : Try.prog.stoodInHeld 33 = false := by kernel_rfl
  rw [run_eql_struct, show (10000 : Nat) = 9999 + 1 from rfl, run_equalIn_agg w 9999 33 _ _ hS hp]
  simp only [Program.fieldsOf, Try.underlying33]
  go_simp
  obtain ⟨x1, x2, x3, x4⟩ := x
  obtain ⟨y1, y2, y3, y4⟩ := y
  simp only [Prod.mk.injEq]
  by_cases h1 : x1 = y1 <;> by_cases h2 : x2 = y2 <;> by_cases h3 : x3 = y3 <;> by_cases h4 : x4 = y4 <;> simp [h1, h2, h3, h4]
theorem neE (x y : E) (w : World) : (binOp .neq 33 (.agg #[.int .i64 x.1, .int .i64 x.2.1, .int .i64 x.2.2.1, .int .i64 x.2.2.2]) (.agg #[.int .i64 y.1, .int .i64 y.2.1, .int .i64 y.2.2.1, .int .i64 y.2.2.2])).run Try.prog w = .ok (.bool (!decide (x = y))) w := by
  have u3 := Try.underlying3
  have a3 := Try.isAgg3
  have z3 := Try.sizeOf3
  have hS : Try.prog.underlying 33 = some (.struct (Try.prog.fieldsOf 33)) := by kernel_rfl
  have hp : Try.prog.stoodInHeld 33 = false := by kernel_rfl
  rw [run_neq_struct, show (10000 : Nat) = 9999 + 1 from rfl, run_equalIn_agg w 9999 33 _ _ hS hp]
  simp only [Program.fieldsOf, Try.underlying33]
  go_simp
  obtain ⟨x1, x2, x3, x4⟩ := x
  obtain ⟨y1, y2, y3, y4⟩ := y
  simp only [Prod.mk.injEq]
  by_cases h1 : x1 = y1 <;> by_cases h2 : x2 = y2 <;> by_cases h3 : x3 = y3 <;> by_cases h4 : x4 = y4 <;> simp [h1, h2, h3, h4]
theorem cellsE {w : World} {blk off : Nat} {d : Array E} (h : HoldsK encE 4 w blk off d) {i : Nat} (hi : i < d.size) :
    (w.cell? ⟨blk, off + i * 4, none⟩ = some (.int .i64 d[i]!.1) ∧ w.cell? ⟨blk, off + i * 4 + 1, none⟩ = some (.int .i64 d[i]!.2.1) ∧ w.cell? ⟨blk, off + i * 4 + 2, none⟩ = some (.int .i64 d[i]!.2.2.1) ∧ w.cell? ⟨blk, off + i * 4 + 3, none⟩ = some (.int .i64 d[i]!.2.2.2)) ∧
    (w.frozen? ⟨blk, off + i * 4, none⟩ = false ∧ w.frozen? ⟨blk, off + i * 4 + 1, none⟩ = false ∧ w.frozen? ⟨blk, off + i * 4 + 2, none⟩ = false ∧ w.frozen? ⟨blk, off + i * 4 + 3, none⟩ = false) := by
  have h0 := h.cell (c := 0) hi (by omega)
  have h1 := h.cell (c := 1) hi (by omega)
  have h2 := h.cell (c := 2) hi (by omega)
  have h3 := h.cell (c := 3) hi (by omega)
  exact ⟨⟨h0.1, h1.1, h2.1, h3.1⟩, h0.2, h1.2, h2.2, h3.2⟩
theorem setMany_one (d : Array E) (i : Nat) (x : E) (hi : i < d.size) : setMany (flatK encE 4 d) (i * 4) (encE x) = flatK encE 4 (d.setIfInBounds i x) := by
  refine ext_get! (by simp) fun t ht => ?_
  have ht' : t < d.size * 4 := by simpa using ht
  rw [get_setMany _ _ _ t (by simpa using ht'), get_flatK _ _ _ t ht', get_flatK _ _ _ t (by simpa using ht')]
  have hlen : (encE x).length = 4 := rfl
  rw [hlen]
  by_cases a : t / 4 = i
  · rw [if_pos (by omega), a, getElem!_set_same d i x hi, show t - i * 4 = t % 4 by omega]
  · rw [if_neg (by omega), getElem!_set_other d i (t / 4) x a]
theorem store_world4 {w wr : World} {n q blk off : Nat} {dk : Array E} {i : Nat} (hi : i < dk.size) (hwr : wr = putRowK encE 4 (Sort.ahead w n) blk off dk) (x : E) :
    ((((wr.drewN q).setCell ⟨blk, off + i * 4, none⟩ (.int .i64 x.1)).setCell ⟨blk, off + i * 4 + 1, none⟩ (.int .i64 x.2.1)).setCell ⟨blk, off + i * 4 + 2, none⟩ (.int .i64 x.2.2.1)).setCell ⟨blk, off + i * 4 + 3, none⟩ (.int .i64 x.2.2.2) =
      putRowK encE 4 (Sort.ahead w (n + q)) blk off (dk.setIfInBounds i x) := by
  subst hwr
  rw [putRowK_drewN]
  have h := setCells_putRow (Sort.ahead w (n + q)) blk off (encE x) (i * 4) (flatK encE 4 dk) (by simp [encE]; omega)
  rw [setMany_one dk i x hi] at h
  exact h
theorem holdsK_sub {w w' : World} {blk off : Nat} {d d' : Array E} (h : HoldsK encE 4 w blk off d) (hs : d'.size ≤ d.size) (he : ∀ j, j < d'.size → d'[j]! = d[j]!)
    (hc : ∀ t, t < d'.size * 4 → w'.cell? ⟨blk, off + t, none⟩ = w.cell? ⟨blk, off + t, none⟩ ∧ w'.frozen? ⟨blk, off + t, none⟩ = w.frozen? ⟨blk, off + t, none⟩) : HoldsK encE 4 w' blk off d' := by
  intro t ht
  have ht' : t < d'.size * 4 := by simpa using ht
  have h1 := h t (by simp; omega)
  rw [get_flatK _ _ _ t (by omega)] at h1
  rw [get_flatK _ _ _ t ht', he (t / 4) (by omega), (hc t ht').1, (hc t ht').2]
  exact h1
theorem putRowK_block (w : World) (blk off : Nat) (d : Array E) (i : Nat) (h : i ≠ blk) : (putRowK encE 4 w blk off d).heap[i]? = w.heap[i]? := by
  show (w.heap.modify blk _)[i]? = _
  rw [Array.getElem?_modify, if_neg (fun e => h e.symm)]
theorem grownBy_putRowK (w : World) (q blk off : Nat) (d : Array E) : w.grownBy (putRowK encE 4 (Sort.ahead w q) blk off d) (some blk) :=
  ⟨rfl, rfl, rfl, by show w.heap.size ≤ (putRow id (Sort.ahead w q) blk off _).heap.size; rw [size_putRow]; exact Nat.le_refl _, fun k _ hk => putRowK_block _ _ _ _ _ (fun e => hk (by rw [e]))⟩
theorem grownBy_setCells (b : Nat) : ∀ (vs : List Value) (o : Nat) (w : World), w.grownBy (w.setCells b o vs) (some b)
  | [], _, w => World.grownBy.refl w _
  | v :: r, o, w => by
    have h := grownBy_setCells b r (o + 1) (w.setCell ⟨b, o, none⟩ v)
    refine ⟨h.os, h.tape, h.output, by have := h.size; rwa [World.size_setCell] at this, fun k hk hne => ?_⟩
    rw [World.setCells, h.block k (by simpa using hk) hne]
    exact Below.heap_setCell _ _ _ _ (fun e => hne (by rw [e]))
theorem grownBy_trans {a b c : World} {r : Option Nat} (h : a.grownBy b r) (k : b.grownBy c r) : a.grownBy c r :=
  ⟨k.os.trans h.os, k.tape.trans h.tape, k.output.trans h.output, Nat.le_trans h.size k.size, fun i hi hn => (k.block i (Nat.lt_of_lt_of_le hi h.size) hn).trans (h.block i hi hn)⟩
theorem zeroE (w : World) : (zeroValue 33).run Try.prog w = .ok (.agg #[.int .i64 0, .int .i64 0, .int .i64 0, .int .i64 0]) w := by kernel_rfl
theorem clear4 (w : World) (b o n c : Nat) (hn : 0 < n)
    (hc : ∀ j, j < n * 4 → (w.cell? ⟨b, o + j, none⟩).isSome = true) (hf : ∀ j, j < n * 4 → w.frozen? ⟨b, o + j, none⟩ = false) :
    ∃ vs, vs.length = n * 4 ∧ ∀ ty, (Builtin.clear_ #[62] ty #[.slice (some ⟨b, o, none⟩) n c]).run Try.prog w = .ok (.tuple #[]) (w.setCells b o vs) := by
  have hz : (Value.agg #[.int .i64 0, .int .i64 0, .int .i64 0, .int .i64 0]).cells = #[.int .i64 0, .int .i64 0, .int .i64 0, .int .i64 0] := rfl
  have hl : (Builtin.zeroCells #[.int .i64 0, .int .i64 0, .int .i64 0, .int .i64 0] n).toList.length = n * 4 := by simp [Builtin.zeroCells]
  have h1 : ∀ v ∈ (Builtin.zeroCells #[.int .i64 0, .int .i64 0, .int .i64 0, .int .i64 0] n).toList, v.oneCell' = true := by
    intro v hv
    simp [Builtin.zeroCells] at hv
    obtain ⟨a, ha, rfl⟩ := hv
    have : a % 4 = 0 ∨ a % 4 = 1 ∨ a % 4 = 2 ∨ a % 4 = 3 := by omega
    rcases this with h | h | h | h <;> simp [h] <;> rfl
  have hst := run_storeCells_cells (P := Try.prog) b o _ 0 w (by rw [hl]; simpa using hc) (by rw [hl]; simpa using hf) h1
  simp only [Nat.add_zero] at hst
  refine ⟨_, hl, fun ty => ?_⟩
  obtain ⟨m, rfl⟩ : ∃ m, n = m + 1 := ⟨n - 1, by omega⟩
  simp [Builtin.clear_, run_underlying Try.underlying62, hz, hst]
/-- What Compact leaves: the slice cut to what is kept; the row's head holds that; other blocks are as they were. -/
def Compacted (d : Array E) (blk off cap : Nat) (w : World) (e : Ending) (w' : World) : Prop :=
  e = .returned (.slice (some ⟨blk, off, none⟩) (compactUpTo d d.size).length cap) ∧ HoldsK encE 4 w' blk off (compactUpTo d d.size).toArray ∧ w.grownBy w' (some blk)
theorem compacted_all {d : Array E} {blk off cap : Nat} {w : World} (hH : HoldsK encE 4 w blk off d) (hall : ∀ j, j < d.size → keeps d j = true) (q : Nat) :
    Compacted d blk off cap w (.returned (.slice (some ⟨blk, off, none⟩) d.size cap)) (w.drewN q) := by
  have e : compactUpTo d d.size = d.toList := by rw [compactUpTo_all d _ hall, range_map_get]
  unfold Compacted
  rw [e]
  refine ⟨by simp, ?_, rfl, rfl, rfl, Nat.le_refl _, fun _ _ _ => rfl⟩
  rw [Array.toArray_toList]
  exact holdsK_ahead (enc := encE) (k := 4) w q blk off d hH
theorem compacted_end {d dk : Array E} {blk off cap kk q : Nat} {w wr : World} (hI : CompInv d d.size kk dk) (hwr : wr = putRowK encE 4 (Sort.ahead w q) blk off dk) (hHk : HoldsK encE 4 wr blk off dk) (vs : List Value) (_hl : vs.length = (d.size - kk) * 4) :
    Compacted d blk off cap w (.returned (.slice (some ⟨blk, off, none⟩) kk cap)) (wr.setCells blk (off + kk * 4) vs) := by
  have hlen := hI.len
  have hlt := hI.lt
  have hsz := hI.size
  refine ⟨by rw [hlen], ?_, ?_⟩
  · refine holdsK_sub hHk (by simp; omega) (fun j hj => ?_) (fun t ht => ⟨?_, World.frozen?_setCells _ _ _ _ _⟩)
    · have hj' : j < kk := by simp at hj; omega
      have h1 := hI.low j hj'
      rw [getElem!_pos _ j (by simpa using hj)]
      have h2 : (compactUpTo d d.size)[j]? = some ((compactUpTo d d.size)[j]'(by simpa using hj)) := List.getElem?_eq_getElem _
      rw [h2] at h1
      simpa using h1
    · refine World.cell?_setCells_out blk vs _ wr _ (fun _ _ => Or.inl ?_)
      simp at ht ⊢
      omega
  · subst hwr
    exact grownBy_trans (grownBy_putRowK w q blk off dk) (grownBy_setCells _ _ _ _)
end Go.Proofs.Ytmgkpabagpgilaa.Pk
namespace Go.Proofs.Ytmgkpabagpgilaa.Pk
open Go.ChangeShapes Go.WideShapes Go.ChangeAt Go.RowKit Base Go.Shelf Go.Lib Go.Sort
set_option maxHeartbeats 4000000 in
theorem compact_any (blk off cap : Nat) (d : Array E) (w : World) (hH : HoldsK encE 4 w blk off d) (hsz : d.size ≤ 1000000) (hcap : d.size ≤ cap) :
    Calls Try.prog 37 #[.slice (some ⟨blk, off, none⟩) d.size cap] w (Compacted d blk off cap w) := by
  have heq := eqE
  have hne := neE
  by_cases h2 : d.size < 2
  · have H0 := compacted_all (cap := cap) hH (fun j hj => keeps_lt_one d j (by omega)) 0
    generalize hP : Compacted d blk off cap w = Post at H0 ⊢
    clear hP hH heq hne
    go_enter Try.func37, Try.ntmps37
    go_wp2
    exact H0
  · have HALL : Hid (∀ q, (∀ j, j < d.size → keeps d j = true) → Compacted d blk off cap w (.returned (.slice (some ⟨blk, off, none⟩) d.size cap)) (w.drewN q)) := Lib.hid fun q h => compacted_all hH h q
    have HEND : Hid (∀ (dk : Array E) (kk q : Nat) (wr : World), CompInv d d.size kk dk → wr = putRowK encE 4 (Sort.ahead w q) blk off dk → HoldsK encE 4 wr blk off dk → ∀ vs : List Value, vs.length = (d.size - kk) * 4 → Compacted d blk off cap w (.returned (.slice (some ⟨blk, off, none⟩) kk cap)) (wr.setCells blk (off + kk * 4) vs)) :=
      Lib.hid fun dk kk q wr h1 h2 h3 vs h4 => compacted_end h1 h2 h3 vs h4
    generalize hP : Compacted d blk off cap w = Post at HALL HEND ⊢
    clear hP
    go_enter Try.func37, Try.ntmps37
    go_wp2
    go_loopg [3] d.size (fun g s3 wr => ∃ k q : Nat, 1 ≤ k ∧ k ≤ d.size ∧ d.size - k ≤ g ∧ s3 = .int .i64 k ∧ wr = w.drewN q ∧ ∀ j, j < k → keeps d j = true)
    case atStart => exact ⟨1, 0, Nat.le_refl _, by omega, by omega, rfl, rfl, keeps_lt_one d⟩
    case round =>
      obtain ⟨k, q, hk1, hk, hg, rfl, rfl, hall⟩ := hrel
      by_cases hlt : k < d.size
      · obtain ⟨⟨c0, c1, c2, c3⟩, _⟩ := cellsE hH hlt
        obtain ⟨⟨b0, b1, b2, b3⟩, _⟩ := cellsE hH (i := k - 1) (by omega)
        have A : Hid (∀ j, j < k → keeps d j = true) := Lib.hid hall
        have HH := Lib.hid hH
        clear hall hH
        generalize hx : d[k]! = x at c0 c1 c2 c3
        generalize hy : d[k - 1]! = y at b0 b1 b2 b3
        have B := Lib.hid (And.intro hx hy)
        clear hx hy
        have hq1 := heq x y
        have HEQ := Lib.hid heq
        have HNE := Lib.hid hne
        clear heq hne
        by_cases hdup : x = y
        · rw [decide_eq_true hdup] at hq1
          have HD := Lib.hid hdup
          clear hdup
          go_wp2_with fail
          go_quiet (fail)
          go_wp2
          clear c0 c1 c2 c3 b0 b1 b2 b3 hq1
          go_loopg [3, 5] d.size (fun g s3 s5 wr => ∃ (kk k2 q2 : Nat) (dk : Array E), s3 = .int .i64 kk ∧ s5 = .int .i64 k2 ∧ 1 ≤ k2 ∧ k + k2 ≤ d.size ∧ d.size - (k + k2) ≤ g ∧ wr = putRowK encE 4 (Sort.ahead w q2) blk off dk ∧ CompInv d (k + k2) kk dk)
          case atStart => exact ⟨k, 1, q + nq, d, rfl, rfl, Nat.le_refl _, by omega, by omega, (putRowK_self encE 4 (Sort.ahead w (q + nq)) blk off d (holdsK_ahead encE 4 w (q + nq) blk off d HH.out)).symm, CompInv.start A.out (keeps_neg (by omega) (by rw [B.out.1, B.out.2, HD.out]))⟩
          case round =>
            obtain ⟨kk, k2, q2, dk, rfl, rfl, h1, hle, hg2, hwr, hI⟩ := hrel
            have hkk := hI.lt
            have hds := hI.size
            have hHk : HoldsK encE 4 wr blk off dk := by rw [hwr]; exact holdsK_putRowK encE 4 _ blk off d dk (holdsK_ahead encE 4 w q2 blk off d HH.out) hds
            have W2 := Lib.hid hwr
            have I2 := Lib.hid hI
            have HK := Lib.hid hHk
            clear hwr
            by_cases hlt2 : k + k2 < d.size
            · obtain ⟨⟨m0, m1, m2, m3⟩, _⟩ := cellsE hHk (i := k + k2) (by omega)
              obtain ⟨⟨p0, p1, p2, p3⟩, _⟩ := cellsE hHk (i := k + k2 - 1) (by omega)
              obtain ⟨⟨o0, o1, o2, o3⟩, ⟨f0, f1, f2, f3⟩⟩ := cellsE hHk (i := kk) (by omega)
              rw [hI.high (k + k2) (by omega), show off + (k + k2) * 4 = off + k * 4 + k2 * 4 by omega] at m0 m1 m2 m3
              rw [hI.high (k + k2 - 1) (by omega), show off + (k + k2 - 1) * 4 = off + k * 4 + (k2 - 1) * 4 by omega] at p0 p1 p2 p3
              clear hHk hI
              generalize hu : d[k + k2]! = u at m0 m1 m2 m3
              generalize hv : d[k + k2 - 1]! = v at p0 p1 p2 p3
              generalize dk[kk]! = old at o0 o1 o2 o3
              have C := Lib.hid (And.intro hu hv)
              clear hu hv
              have hq2 := HNE.out u v
              by_cases huv : u = v
              · rw [decide_eq_true huv] at hq2
                have HU := Lib.hid huv
                clear huv
                go_wp2_with fail
                go_quiet (fail)
                go_wp2
                go_roundg (d.size - (k + (k2 + 1)))
                case measure => omega
                case rel => exact ⟨kk, k2 + 1, q2 + nq, dk, rfl, by go_num, by omega, by omega, Nat.le_refl _, by rw [W2.out, putRowK_drewN], I2.out.skip (keeps_neg (by omega) (by rw [C.out.1, C.out.2, HU.out]))⟩
              · rw [decide_eq_false huv] at hq2
                have HU := Lib.hid huv
                clear huv
                go_wp2_with fail
                go_quiet (fail)
                go_wp2_with fail
                go_roundg (d.size - (k + (k2 + 1)))
                case measure => omega
                case rel =>
                  have hlt3 : kk < dk.size := by omega
                  have hS := store_world4 (q := nq) hlt3 W2.out u
                  have hK := I2.out.keep hlt2 (keeps_pos (by rw [C.out.1, C.out.2]; exact HU.out))
                  rw [C.out.1] at hK
                  refine ⟨kk + 1, k2 + 1, q2 + nq, dk.setIfInBounds kk u, ?_, ?_, ?_, ?_, Nat.le_refl _, hS, hK⟩
                  · go_num
                  · go_num
                  · omega
                  · omega
            · have hend : k + k2 = d.size := by omega
              obtain ⟨vs, hvl, hcl⟩ := clear4 wr blk (off + kk * 4) (d.size - kk) (cap - kk) (by omega)
                (fun j hj => by have := hHk (kk * 4 + j) (by simp; omega); rw [← Nat.add_assoc] at this; rw [this.1]; rfl) (fun j hj => by have := hHk (kk * 4 + j) (by simp; omega); rw [← Nat.add_assoc] at this; exact this.2)
              have HE := Lib.hid (HEND.out dk kk q2 wr (by rw [hend] at hI; exact hI) W2.out hHk vs hvl)
              clear hHk hI HEND HALL
              go_wp2
              exact HE.out
        · rw [decide_eq_false hdup] at hq1
          have HD := Lib.hid hdup
          clear hdup
          go_wp2_with fail
          go_quiet (fail)
          go_wp2
          go_roundg (d.size - (k + 1))
          case measure => omega
          case rel =>
            refine ⟨k + 1, q + nq, by omega, by omega, Nat.le_refl _, by go_num, rfl, fun j hj => ?_⟩
            by_cases e : j = k
            · subst e
              exact keeps_pos (by rw [B.out.1, B.out.2]; exact HD.out)
            · exact A.out j (by omega)
      · have hk' : k = d.size := by omega
        clear hH heq hne
        go_wp2
        exact HALL.out q (fun j hj => hall j (by omega))
end Go.Proofs.Ytmgkpabagpgilaa.Pk
namespace Go.Proofs.Ytmgkpabagpgilaa.Pk
open Go.ChangeShapes Go.WideShapes Go.ChangeAt Go.RowKit Base Go.Shelf Go.Lib Go.Sort
/-- The edges of d in order, each once. -/
def sortedE (d : Array E) : List E := compactUpTo (d.toList.mergeSort fun x y => !(ltOf cfE) y x).toArray (d.toList.mergeSort fun x y => !(ltOf cfE) y x).toArray.size
theorem holdsK_of_own {w : World} {base : Nat} {g n c : Nat} {d : Array E} (hn : n = d.size) (h : w.ownsRow base 33 4 (.slice (some ⟨g, 0, none⟩) n c) n (flatK encE 4 d).toList) : HoldsK encE 4 w g 0 d := by
  intro j hj
  have hj' : j < n * 4 := by simp at hj; omega
  rw [Nat.zero_add]
  refine ⟨?_, h.frozenAt j⟩
  rw [h.cellAt j hj', getElem!_pos _ j hj]
  simp
theorem oneCells (d : Array E) : ∀ u ∈ (flatK encE 4 d).toList, u.oneCell' = true := by
  intro u hu
  unfold flatK at hu
  simp only [Array.toList_map, List.mem_map] at hu
  obtain ⟨t, _, rfl⟩ := hu
  have : t % 4 = 0 ∨ t % 4 = 1 ∨ t % 4 = 2 ∨ t % 4 = 3 := by omega
  rcases this with h | h | h | h <;> simp [h, encE] <;> rfl
theorem grownBy_sortWorldK (w : World) (n g : Nat) (d : Array E) (os : Array Obj) : w.grownBy (sortWorldK encE 4 w g 0 n d os) (some g) := by
  have h := grownBy_putRowK w n g 0 d
  unfold sortWorldK
  refine ⟨h.os, h.tape, h.output, ?_, fun k hk hne => ?_⟩
  · have := h.size
    show w.heap.size ≤ ((putRowK encE 4 (Sort.ahead w n) g 0 d).heap ++ os).size
    simp only [Array.size_append]
    omega
  · show ((putRowK encE 4 (Sort.ahead w n) g 0 d).heap ++ os)[k]? = _
    have := h.size
    rw [Array.getElem?_append_left (by omega)]
    exact h.block k hk hne
theorem holdsK_sortWorldK (w : World) (n g : Nat) (d d' : Array E) (os : Array Obj) (hg : g < w.heap.size) (h : HoldsK encE 4 w g 0 d) (hs : d'.size = d.size) : HoldsK encE 4 (sortWorldK encE 4 w g 0 n d' os) g 0 d' := by
  unfold sortWorldK
  have h1 := holdsK_putRowK encE 4 (Sort.ahead w n) g 0 d d' (holdsK_ahead encE 4 w n g 0 d h) hs
  refine holdsK_grow encE 4 _ os g 0 d' ?_ h1
  have := (grownBy_putRowK w n g 0 d').size
  omega
/-- What pack.Sort leaves, of a list that is not nil. -/
def Sorted (d : Array E) (w : World) (e : Ending) (w' : World) : Prop :=
  ∃ g cap, e = .returned (.slice (some ⟨g, 0, none⟩) (sortedE d).length cap) ∧ HoldsK encE 4 w' g 0 (sortedE d).toArray ∧ w.heap.size ≤ g ∧ Below w.heap.size w w'
set_option maxHeartbeats 1000000 in
theorem sort_any (b off c : Nat) (d : Array E) (w : World) (hd : d.size ≤ 1000000) (hc : ∀ j u, (flatK encE 4 d).toList[j]? = some u → w.cell? ⟨b, off + j, none⟩ = some u) :
    Calls Try.prog 21 #[.slice (some ⟨b, off, none⟩) d.size c] w (Sorted d w) := by
  have HC := Lib.hid (clone_any b off d.size c (flatK encE 4 d).toList w (by simp) hd hc (oneCells d))
  clear hc
  obtain ⟨s, hs⟩ : ∃ s, s = (d.toList.mergeSort fun x y => !(ltOf cfE) y x).toArray := ⟨_, rfl⟩
  have hss : s.size = d.size := by rw [hs]; simp
  have hse : sortedE d = compactUpTo s s.size := by rw [hs]; rfl
  have HF : Hid (∀ g cap w1, HoldsK encE 4 w1 g 0 d → g < w1.heap.size → Calls Try.prog 35 #[.slice (some ⟨g, 0, none⟩) d.size cap, .func (.func 36) #[] #[]] w1 fun e w' => e = .returned (.tuple #[]) ∧ HoldsK encE 4 w' g 0 s ∧ w1.grownBy w' (some g)) := Lib.hid fun g cap w1 h hg =>
    (sortFunc_any g 0 cap d w1 h hg (by omega)).mono fun _ _ ⟨he, n, os, hw⟩ => ⟨he, by rw [hw, ← hs]; exact holdsK_sortWorldK w1 n g d s os hg h hss, by rw [hw]; exact grownBy_sortWorldK w1 n g _ os⟩
  have HX : Hid (∀ g cap w2, HoldsK encE 4 w2 g 0 s → d.size ≤ cap → Calls Try.prog 37 #[.slice (some ⟨g, 0, none⟩) d.size cap] w2 (Compacted s g 0 cap w2)) := Lib.hid fun g cap w2 h hcap => by
    have := compact_any g 0 cap s w2 h (by omega) (by omega)
    rwa [hss] at this
  have HP : Hid (∀ g cap w1 w2 e w3, w.heap.size ≤ g → Below w.heap.size w w1 → w1.grownBy w2 (some g) → Compacted s g 0 cap w2 e w3 → Sorted d w e w3) := Lib.hid fun g cap w1 w2 e w3 hg hb h1 h2 => by
    obtain ⟨he, hH, hg3⟩ := h2
    refine ⟨g, cap, by rw [he, hse], by rw [hse]; exact hH, hg, ?_⟩
    have hb2 := hb.grown h1 hb.size (by intro k hk; cases hk; exact hg)
    exact hb2.grown hg3 (Nat.le_trans hb.size h1.size) (by intro k hk; cases hk; exact hg)
  clear hs hss hse
  generalize hPost : Sorted d w = Post at HP ⊢
  clear hPost
  go_enter Try.func21, Try.ntmps21
  go_wp2_with fail
  refine (HC.out).mono ?_
  rintro e w1 ⟨v', rfl, hown, hnn, hb⟩
  have hform : ∃ g cap, v' = .slice (some ⟨g, 0, none⟩) d.size cap ∧ w.heap.size ≤ g ∧ d.size ≤ cap ∧ g < w1.heap.size := by
    rcases hown.2 with ⟨h', _⟩ | ⟨g, cap, cur, hv, hbase, hheap, hnc, _⟩
    · exact absurd h' hnn
    · exact ⟨g, cap, hv, hbase, hnc, heap_lt hheap⟩
  obtain ⟨g, cap, rfl, hg, hcap, hlt⟩ := hform
  have HH := holdsK_of_own rfl hown
  have HS := Lib.hid (HF.out g cap w1 HH hlt)
  have HB := Lib.hid hb
  clear hown hnn HH hb HC HF
  go_wp2_with fail
  refine (HS.out).mono ?_
  rintro e w2 ⟨rfl, hH2, hg2⟩
  have HK := Lib.hid (HX.out g cap w2 hH2 hcap)
  have HG2 := Lib.hid hg2
  clear hH2 hg2
  go_wp2_with fail
  refine (HK.out).mono ?_
  intro e w3 hC
  have hE := hC.1
  have HE := Lib.hid (HP.out g cap w1 w2 e w3 hg HB.out HG2.out hC)
  subst hE
  clear hC
  go_wp2
  exact HE.out
end Go.Proofs.Ytmgkpabagpgilaa.Pk
namespace Go.Proofs.Ytmgkpabagpgilaa.Pk
open Go.ChangeShapes Go.WideShapes Go.ChangeAt Go.RowKit Base Go.Shelf Go.Lib Go.Sort
theorem lt_irr (x : E) : ltE x x = false := by rw [ltE_no]; omega
theorem lt_tr {x y z : E} (h1 : ltE x y = true) (h2 : ltE y z = true) : ltE x z = true := by rw [ltE_iff] at *; omega
theorem lt_as {x y : E} (h : ltE x y = true) : ltE y x = false := by rw [ltE_iff] at h; rw [ltE_no]; omega
theorem lt_eq {x y : E} (h1 : ltE x y = false) (h2 : ltE y x = false) : x = y := totE x y (by rw [ltOf_cfE]; exact h1) (by rw [ltOf_cfE]; exact h2)
theorem le_tr {x y z : E} (h1 : ltE y x = false) (h2 : ltE z y = false) : ltE z x = false := by rw [ltE_no] at *; omega
/-- Each stands ahead of all behind it. -/
abbrev Rises (l : List E) : Prop := l.Pairwise fun x y => ltE x y = true
theorem rises_ext : ∀ {l m : List E}, Rises l → Rises m → (∀ x, x ∈ l ↔ x ∈ m) → l = m
  | [], [], _, _, _ => rfl
  | [], y :: m, _, _, h => by have := (h y).2 List.mem_cons_self; cases this
  | x :: l, [], _, _, h => by have := (h x).1 List.mem_cons_self; cases this
  | x :: l, y :: m, hl, hm, h => by
    obtain ⟨hl1, hl2⟩ := List.pairwise_cons.1 hl
    obtain ⟨hm1, hm2⟩ := List.pairwise_cons.1 hm
    have hxy : x = y := by
      rcases List.mem_cons.1 ((h x).1 List.mem_cons_self) with e | e
      · exact e
      · rcases List.mem_cons.1 ((h y).2 List.mem_cons_self) with e' | e'
        · exact e'.symm
        · have := lt_as (hl1 y e')
          rw [hm1 x e] at this; cases this
    subst hxy
    rw [rises_ext hl2 hm2 fun z => ?_]
    constructor
    · intro hz
      rcases List.mem_cons.1 ((h z).1 (List.mem_cons_of_mem _ hz)) with e | e
      · have := hl1 z hz; rw [e, lt_irr] at this; cases this
      · exact e
    · intro hz
      rcases List.mem_cons.1 ((h z).2 (List.mem_cons_of_mem _ hz)) with e | e
      · have := hm1 z hz; rw [e, lt_irr] at this; cases this
      · exact e
/-- A list with one more, put ahead of the first that is not ahead of it. -/
def put1 (e : E) : List E → List E
  | [] => [e]
  | x :: l => if ltE x e = true then x :: put1 e l else if x = e then e :: l.filter (fun y => !decide (y = e)) else e :: x :: l.filter (fun y => !decide (y = e))
theorem mem_put1 (e y : E) : ∀ l, y ∈ put1 e l ↔ y = e ∨ y ∈ l
  | [] => by simp [put1]
  | x :: l => by
    have ih := mem_put1 e y l
    unfold put1
    by_cases h : ltE x e = true
    · rw [if_pos h, List.mem_cons, ih, List.mem_cons]
      constructor
      · rintro (h | h | h)
        · exact .inr (.inl h)
        · exact .inl h
        · exact .inr (.inr h)
      · rintro (h | h | h)
        · exact .inr (.inl h)
        · exact .inl h
        · exact .inr (.inr h)
    · rw [if_neg h]
      by_cases h2 : x = e
      · rw [if_pos h2]
        subst h2
        by_cases hy : y = x <;> simp [hy]
      · rw [if_neg h2]
        by_cases hy : y = e <;> simp [hy]
theorem rises_put1 (e : E) : ∀ {l : List E}, Rises l → Rises (put1 e l)
  | [], _ => by simp [put1]
  | x :: l, h => by
    obtain ⟨h1, h2⟩ := List.pairwise_cons.1 h
    have ih := rises_put1 e h2
    unfold put1
    by_cases hx : ltE x e = true
    · rw [if_pos hx]
      refine List.pairwise_cons.2 ⟨fun y hy => ?_, ih⟩
      rcases (mem_put1 e y l).1 hy with e1 | e1
      · rw [e1]; exact hx
      · exact h1 y e1
    · rw [if_neg hx]
      by_cases he : x = e
      · rw [if_pos he]
        subst he
        exact List.pairwise_cons.2 ⟨fun y hy => h1 y (List.mem_filter.1 hy).1, h2.filter _⟩
      · rw [if_neg he]
        have hex : ltE e x = true := by
          cases hh : ltE e x
          · exact absurd (lt_eq (by simpa using hx) hh) he
          · rfl
        refine List.pairwise_cons.2 ⟨fun y hy => ?_, List.pairwise_cons.2 ⟨fun y hy => h1 y (List.mem_filter.1 hy).1, h2.filter _⟩⟩
        rcases List.mem_cons.1 hy with e1 | e1
        · rw [e1]; exact hex
        · exact lt_tr hex (h1 y (List.mem_filter.1 e1).1)
/-- One round of the document's Put. -/
def stepE (e : E) (s : Bool × List E) (x : E) : Bool × List E :=
  if s.1 = false ∧ ltE x e = false then (true, if x = e then s.2 ++ [e] else s.2 ++ [e] ++ [x]) else (s.1, if x = e then s.2 else s.2 ++ [x])
theorem step_true (e : E) : ∀ (l out : List E), l.foldl (stepE e) (true, out) = (true, out ++ l.filter (fun y => !decide (y = e)))
  | [], out => by simp
  | x :: l, out => by
    rw [List.foldl_cons]
    have h : stepE e (true, out) x = (true, if x = e then out else out ++ [x]) := by simp [stepE]
    rw [h, step_true e l]
    by_cases hx : x = e <;> simp [hx]
theorem step_false (e : E) : ∀ (l out : List E), (l.foldl (stepE e) (false, out)).2 ++ (if (l.foldl (stepE e) (false, out)).1 = true then [] else [e]) = out ++ put1 e l
  | [], out => by simp [put1]
  | x :: l, out => by
    rw [List.foldl_cons]
    unfold put1
    by_cases hx : ltE x e = true
    · have hne : ¬ x = e := fun h => by rw [h, lt_irr] at hx; cases hx
      have h : stepE e (false, out) x = (false, out ++ [x]) := by simp [stepE, hx, hne]
      rw [h, if_pos hx, step_false e l]
      simp
    · have hx' : ltE x e = false := by simpa using hx
      rw [if_neg hx]
      by_cases he : x = e
      · have h : stepE e (false, out) x = (true, out ++ [e]) := by simp [stepE, he, lt_irr]
        rw [h, if_pos he, step_true]
        simp
      · have h : stepE e (false, out) x = (true, out ++ [e] ++ [x]) := by simp [stepE, hx', he]
        rw [h, if_neg he, step_true]
        simp
theorem stepE_len (e : E) : ∀ (l : List E) (s : Bool × List E), (l.foldl (stepE e) s).2.length ≤ s.2.length + 2 * l.length
  | [], s => by simp
  | x :: l, s => by
    rw [List.foldl_cons]
    have h1 := stepE_len e l (stepE e s x)
    have h2 : (stepE e s x).2.length ≤ s.2.length + 2 := by
      unfold stepE
      split <;> (dsimp only; split <;> simp)
    simp only [List.length_cons]
    omega
theorem put1_len (e : E) : ∀ l : List E, (put1 e l).length ≤ l.length + 1
  | [] => by simp [put1]
  | x :: l => by
    have ih := put1_len e l
    have hf := List.length_filter_le (fun y => !decide (y = e)) l
    unfold put1
    split
    · simp only [List.length_cons]; omega
    · split <;> simp only [List.length_cons] <;> omega
/-- All put in order, one by one. -/
def sortL (l : List E) : List E := l.foldl (fun acc e => put1 e acc) []
theorem sortL_snoc {l : List E} {k : Nat} (hk : k < l.length) : sortL (l.take (k + 1)) = put1 (l.getD k (0, 0, 0, 0)) (sortL (l.take k)) := by
  unfold sortL
  rw [List.take_succ_eq_append_getElem hk, List.foldl_append]
  simp [hk]
theorem fold_put1 : ∀ (l acc : List E), Rises acc → Rises (l.foldl (fun acc e => put1 e acc) acc) ∧ ∀ y, y ∈ l.foldl (fun acc e => put1 e acc) acc ↔ y ∈ acc ∨ y ∈ l
  | [], acc, h => ⟨h, fun y => by simp⟩
  | x :: l, acc, h => by
    rw [List.foldl_cons]
    obtain ⟨h1, h2⟩ := fold_put1 l (put1 x acc) (rises_put1 x h)
    refine ⟨h1, fun y => ?_⟩
    rw [h2, mem_put1, List.mem_cons]
    constructor
    · rintro ((h | h) | h)
      · exact .inr (.inl h)
      · exact .inl h
      · exact .inr (.inr h)
    · rintro (h | h | h)
      · exact .inl (.inr h)
      · exact .inl (.inl h)
      · exact .inr h
theorem sortL_len (l : List E) : (sortL l).length ≤ l.length := by
  have h : ∀ (l acc : List E), (l.foldl (fun acc e => put1 e acc) acc).length ≤ acc.length + l.length := by
    intro l
    induction l with
    | nil => intro acc; simp
    | cons x l ih =>
      intro acc
      rw [List.foldl_cons]
      have h1 := ih (put1 x acc)
      have h2 := put1_len x acc
      simp only [List.length_cons]
      omega
  have := h l []
  simpa [sortL] using this
/-- What is left of a row in order, each once. -/
theorem compact_rises (s : Array E) (hs : ∀ i j, i < j → j < s.size → ltE s[j]! s[i]! = false) : ∀ m, m ≤ s.size → Rises (compactUpTo s m) ∧ ∀ x, x ∈ compactUpTo s m ↔ ∃ j, j < m ∧ s[j]! = x
  | 0, _ => by simp [compactUpTo]
  | m + 1, hm => by
    obtain ⟨h1, h2⟩ := compact_rises s hs m (by omega)
    rw [compactUpTo_succ]
    by_cases hk : keeps s m = true
    · rw [if_pos hk]
      have hk' : m = 0 ∨ s[m]! ≠ s[m - 1]! := by simpa [keeps] using hk
      constructor
      · refine List.pairwise_append.2 ⟨h1, by simp, fun x hx y hy => ?_⟩
        rw [List.mem_singleton] at hy
        subst hy
        obtain ⟨j, hj, e⟩ := (h2 x).1 hx
        rw [← e]
        have hw := hs j m hj (by omega)
        cases hh : ltE s[j]! s[m]!
        · exfalso
          have e1 := lt_eq hh hw
          rcases hk' with h0 | h0
          · omega
          · by_cases hjm : j = m - 1
            · exact h0 (by rw [← hjm]; exact e1.symm)
            · have a1 := hs j (m - 1) (by omega) (by omega)
              have a2 := hs (m - 1) m (by omega) (by omega)
              rw [e1] at a1
              exact h0 (lt_eq a2 a1)
        · rfl
      · intro x
        rw [List.mem_append, h2, List.mem_singleton]
        constructor
        · rintro (⟨j, hj, e⟩ | e)
          · exact ⟨j, by omega, e⟩
          · exact ⟨m, by omega, e.symm⟩
        · rintro ⟨j, hj, e⟩
          by_cases hjm : j = m
          · exact .inr (by rw [← e, hjm])
          · exact .inl ⟨j, by omega, e⟩
    · rw [if_neg hk, List.append_nil]
      have hk' : ¬ m = 0 ∧ s[m]! = s[m - 1]! := by simpa [keeps] using hk
      refine ⟨h1, fun x => ?_⟩
      rw [h2]
      constructor
      · rintro ⟨j, hj, e⟩
        exact ⟨j, by omega, e⟩
      · rintro ⟨j, hj, e⟩
        by_cases hjm : j = m
        · exact ⟨m - 1, by omega, by rw [← e, hjm]; exact hk'.2.symm⟩
        · exact ⟨j, by omega, e⟩
/-- Two ways to sort: one list. -/
theorem sortedE_eq (d : Array E) : sortedE d = sortL d.toList := by
  have hp := List.mergeSort_perm d.toList (fun x y => !(ltOf cfE) y x)
  have hw : (d.toList.mergeSort fun x y => !(ltOf cfE) y x).Pairwise fun x y => (!(ltOf cfE) y x) = true :=
    List.pairwise_mergeSort (fun a b c h1 h2 => by
      simp only [ltOf_cfE, Bool.not_eq_true'] at *
      exact le_tr h1 h2) (fun a b => by
      simp only [ltOf_cfE]
      cases h : ltE b a
      · rfl
      · rw [lt_as h]; rfl) d.toList
  unfold sortedE
  generalize (d.toList.mergeSort fun x y => !(ltOf cfE) y x) = l at hp hw ⊢
  have hs : ∀ i j, i < j → j < l.toArray.size → ltE l.toArray[j]! l.toArray[i]! = false := fun i j hij hj => by
    have hj' : j < l.length := by simpa using hj
    have hi' : i < l.length := by omega
    have := List.pairwise_iff_getElem.1 hw i j hi' hj' hij
    rw [ltOf_cfE, Bool.not_eq_true'] at this
    rw [getElem!_pos l.toArray j (by simpa using hj'), getElem!_pos l.toArray i (by simpa using hi')]
    simpa using this
  obtain ⟨h1, h2⟩ := compact_rises l.toArray hs l.toArray.size (Nat.le_refl _)
  obtain ⟨h3, h4⟩ := fold_put1 d.toList [] (by simp)
  refine rises_ext h1 h3 fun x => ?_
  rw [h2]
  unfold sortL
  rw [h4, ← hp.mem_iff]
  constructor
  · rintro ⟨j, hj, e⟩
    have hj' : j < l.length := by simpa using hj
    rw [getElem!_pos l.toArray j (by simpa using hj')] at e
    exact .inr (by rw [← e]; simp)
  · rintro (h | h)
    · cases h
    · obtain ⟨j, hj, e⟩ := List.mem_iff_getElem.1 h
      exact ⟨j, by simpa using hj, by rw [getElem!_pos l.toArray j (by simpa using hj)]; simpa using e⟩
end Go.Proofs.Ytmgkpabagpgilaa.Pk
namespace Go.Proofs.Ytmgkpabagpgilaa.Pk
open Go.ChangeShapes Go.WideShapes Go.ChangeAt Go.RowKit Base Go.Shelf Go.Lib Go.Sort
end Go.Proofs.Ytmgkpabagpgilaa.Pk
namespace Go.Proofs.Ytmgkpabagpgilaa.Pk
open Go.ChangeShapes Go.WideShapes Go.ChangeAt Go.RowKit Base Go.Shelf Go.Lib Go.Sort
theorem keep_block {W w1 : World} (hb : Below W.heap.size W w1) {g : Nat} {o : Obj} (h : W.heap[g]? = some o) : w1.heap[g]? = some o := (hb.block g (heap_lt h)).trans h
theorem cells4 {w : World} {g : Nat} {t : TypeId} {a b c d : Value} (h : w.heap[g]? = some (.cells #[a, b, c, d] t)) :
    (w.cell? ⟨g, 0, none⟩ = some a ∧ w.cell? ⟨g, 1, none⟩ = some b ∧ w.cell? ⟨g, 2, none⟩ = some c ∧ w.cell? ⟨g, 3, none⟩ = some d) := (blk4 (Below.refl _ w) (heap_lt h) h).1
theorem cells3 {w : World} {g : Nat} {t : TypeId} {a b c : Value} (h : w.heap[g]? = some (.cells #[a, b, c] t)) :
    (w.cell? ⟨g, 0, none⟩ = some a ∧ w.cell? ⟨g, 1, none⟩ = some b ∧ w.cell? ⟨g, 2, none⟩ = some c) := (blk3 (Below.refl _ w) (heap_lt h) h).1
theorem version_1 (w : World) : Calls Try.prog 53 #[.agg #[.int .i64 2, .int .i64 1, .int .i64 3]] w fun e w' => e = .returned (.tuple #[.int .u64 8589938691, .int .i64 0]) ∧ Below w.heap.size w w' := by
  have h := version_ok 2 1 3 w (by decide)
  rwa [show vNum 2 1 3 = 8589938691 from by decide] at h
theorem version_2 (w : World) : Calls Try.prog 53 #[.agg #[.int .i64 0, .int .i64 1, .int .i64 0]] w fun e w' => e = .returned (.tuple #[.int .u64 4096, .int .i64 0]) ∧ Below w.heap.size w w' := by
  have h := version_ok 0 1 0 w (by decide)
  rwa [show vNum 0 1 0 = 4096 from by decide] at h
theorem eq_1 (w : World) : (binOp .eql 33 (.agg #[.int .i64 1, .int .i64 2, .int .i64 2, .int .i64 3]) (.agg #[.int .i64 1, .int .i64 2, .int .i64 2, .int .i64 3])).run Try.prog w = .ok (.bool true) w := by
  have h := eqE (1, 2, 2, 3) (1, 2, 2, 3) w
  rwa [decide_eq_true rfl] at h
theorem eqV (a b c d e f : Int) (w : World) : (binOp .eql 80 (.agg #[.int .i64 a, .int .i64 b, .int .i64 c]) (.agg #[.int .i64 d, .int .i64 e, .int .i64 f])).run Try.prog w = .ok (.bool (decide (a = d ∧ b = e ∧ c = f))) w := by
  have u3 := Try.underlying3
  have a3 := Try.isAgg3
  have z3 := Try.sizeOf3
  have hS : Try.prog.underlying 80 = some (.struct (Try.prog.fieldsOf 80)) := by kernel_rfl
  have hp : Try.prog.stoodInHeld 80 = false := by kernel_rfl
  rw [run_eql_struct, show (10000 : Nat) = 9999 + 1 from rfl, run_equalIn_agg w 9999 80 _ _ hS hp]
  simp only [Program.fieldsOf, Try.underlying80]
  go_simp
  by_cases h1 : a = d <;> by_cases h2 : b = e <;> by_cases h3 : c = f <;> simp [h1, h2, h3]
theorem eq_2 (w : World) : (binOp .eql 80 (.agg #[.int .i64 2, .int .i64 1, .int .i64 3]) (.agg #[.int .i64 2, .int .i64 1, .int .i64 3])).run Try.prog w = .ok (.bool true) w := by
  have h := eqV 2 1 3 2 1 3 w
  rwa [decide_eq_true (by decide)] at h
theorem sorted_two : (sortedE #[(1, 2, 2, 3), (1, 2, 2, 3)]).length = 1 := by
  have h : ((#[(1, 2, 2, 3), (1, 2, 2, 3)] : Array E).toList.mergeSort fun x y => !(ltOf cfE) y x) = [(1, 2, 2, 3), (1, 2, 2, 3)] := by
    have hp := List.mergeSort_perm (#[(1, 2, 2, 3), (1, 2, 2, 3)] : Array E).toList (fun x y => !(ltOf cfE) y x)
    exact (List.perm_replicate (a := ((1, 2, 2, 3) : E)) (n := 2)).1 hp
  unfold sortedE
  rw [h]
  decide
def pairCells : Array Value := #[.int .i64 1, .int .i64 2, .int .i64 2, .int .i64 3, .int .i64 1, .int .i64 2, .int .i64 2, .int .i64 3]
theorem sort_1 (g c : Nat) (w : World) (h : w.heap[g]? = some (.cells pairCells 33)) : Calls Try.prog 21 #[.slice (some ⟨g, 0, none⟩) 2 c] w fun e w' => (∃ g' c', e = .returned (.slice (some ⟨g', 0, none⟩) 1 c')) ∧ Below w.heap.size w w' := by
  have hs := sort_any g 0 c #[(1, 2, 2, 3), (1, 2, 2, 3)] w (by decide) (by
    intro j u hu
    have hf : (flatK encE 4 #[(1, 2, 2, 3), (1, 2, 2, 3)]).toList = pairCells.toList := by kernel_rfl
    rw [hf] at hu
    simp only [World.cell?, h, Nat.zero_add]
    simpa using hu)
  exact hs.mono fun e w' hh => by
    obtain ⟨g', c', he, _, _, hb⟩ := hh
    rw [sorted_two] at he
    exact ⟨⟨g', c', he⟩, hb⟩
end Go.Proofs.Ytmgkpabagpgilaa.Pk
namespace Go.Proofs.Ytmgkpabagpgilaa.Pk
open Go.ChangeShapes Go.WideShapes Go.ChangeAt Go.RowKit Base Go.Shelf Go.Lib Go.Sort
abbrev zE : E := (0, 0, 0, 0)
/-- The slice v holds the edges xs. -/
def Eds (w : World) (v : Value) (xs : List E) : Prop :=
  ((∃ p c, v = .slice p 0 c) ∧ xs = []) ∨ ∃ g o c, v = .slice (some ⟨g, o, none⟩) xs.length c ∧ g < w.heap.size ∧ xs.length ≤ 9223372036854775807 ∧ ∀ k, k < xs.length →
    w.cell? ⟨g, o + k * 4, none⟩ = some (.int .i64 (xs.getD k zE).1) ∧ w.cell? ⟨g, o + k * 4 + 1, none⟩ = some (.int .i64 (xs.getD k zE).2.1) ∧ w.cell? ⟨g, o + k * 4 + 2, none⟩ = some (.int .i64 (xs.getD k zE).2.2.1) ∧ w.cell? ⟨g, o + k * 4 + 3, none⟩ = some (.int .i64 (xs.getD k zE).2.2.2)
theorem Eds.below {w w1 : World} {v : Value} {xs : List E} (h : Eds w v xs) (hb : Below w.heap.size w w1) : Eds w1 v xs := by
  rcases h with h | ⟨g, o, c, hv, h1, h2, h3⟩
  · exact .inl h
  · refine .inr ⟨g, o, c, hv, Nat.lt_of_lt_of_le h1 hb.size, h2, fun k hk => ?_⟩
    obtain ⟨a, b, c, d⟩ := h3 k hk
    exact ⟨(hb.cell (p := ⟨g, _, none⟩) h1).trans a, (hb.cell (p := ⟨g, _, none⟩) h1).trans b, (hb.cell (p := ⟨g, _, none⟩) h1).trans c, (hb.cell (p := ⟨g, _, none⟩) h1).trans d⟩
theorem Eds.open_ {w : World} {v : Value} {xs : List E} (h : Eds w v xs) : ∃ p c, v = .slice p xs.length c ∧ xs.length ≤ 9223372036854775807 ∧ ∀ k, k < xs.length → ∃ g o, p = some ⟨g, o, none⟩ ∧ g < w.heap.size ∧
    w.cell? ⟨g, o + k * 4, none⟩ = some (.int .i64 (xs.getD k zE).1) ∧ w.cell? ⟨g, o + k * 4 + 1, none⟩ = some (.int .i64 (xs.getD k zE).2.1) ∧ w.cell? ⟨g, o + k * 4 + 2, none⟩ = some (.int .i64 (xs.getD k zE).2.2.1) ∧ w.cell? ⟨g, o + k * 4 + 3, none⟩ = some (.int .i64 (xs.getD k zE).2.2.2) := by
  rcases h with ⟨⟨p, c, hv⟩, rfl⟩ | ⟨g, o, c, hv, h1, h2, h3⟩
  · exact ⟨p, c, hv, by simp, fun k hk => absurd hk (by simp)⟩
  · exact ⟨_, c, hv, h2, fun k hk => ⟨g, o, rfl, h1, h3 k hk⟩⟩
theorem flat_get : ∀ (zs : List E) (k j : Nat), k < zs.length → j < 4 → (zs.flatMap encE)[k * 4 + j]? = (encE (zs.getD k zE))[j]?
  | x :: zs, 0, j, _, hj => by
    rw [List.flatMap_cons, List.getElem?_append_left (by simp [encE]; omega)]
    simp
  | x :: zs, k + 1, j, hk, hj => by
    rw [List.flatMap_cons, List.getElem?_append_right (by simp [encE]; omega), show (k + 1) * 4 + j - (encE x).length = k * 4 + j by simp [encE]; omega, flat_get zs k j (by simpa using hk) hj]
    rfl
theorem flat_len (zs : List E) : (zs.flatMap encE).length = zs.length * 4 := by
  induction zs with
  | nil => rfl
  | cons x zs ih => rw [List.flatMap_cons, List.length_append, ih]; simp [encE]; omega
/-- The slice v, which the call made itself from block B on, holds the edges zs. -/
def OwnE (B : Nat) (w : World) (v : Value) (zs : List E) : Prop := w.ownsRow B 33 4 v zs.length (zs.flatMap encE)
theorem OwnE.nil (B : Nat) (w : World) : OwnE B w (.slice none 0 0) [] := World.ownsRow_nil _ _ _ _
theorem OwnE.eds {B : Nat} {w : World} {v : Value} {zs : List E} (h : OwnE B w v zs) (hl : zs.length ≤ 9223372036854775807) : Eds w v zs := by
  have h' := h
  rcases h.2 with ⟨hv, h0⟩ | ⟨g, cap, cur, hv, _, h2, _⟩
  · exact .inl ⟨⟨_, _, hv⟩, List.length_eq_zero_iff.1 h0⟩
  · subst hv
    have hc : ∀ k j, k < zs.length → j < 4 → w.cell? ⟨g, 0 + k * 4 + j, none⟩ = (encE (zs.getD k zE))[j]? := fun k j hk hj => by
      rw [Nat.zero_add, ← flat_get zs k j hk hj]
      exact World.ownsRow.cellAt h' (k * 4 + j) (by omega)
    exact .inr ⟨g, 0, cap, rfl, heap_lt h2, hl, fun k hk => ⟨hc k 0 hk (by omega), hc k 1 hk (by omega), hc k 2 hk (by omega), hc k 3 hk (by omega)⟩⟩
theorem OwnE.below {B : Nat} {w w1 : World} {v : Value} {zs : List E} (h : OwnE B w v zs) (hb : Below w.heap.size w w1) : OwnE B w1 v zs :=
  World.ownsRow.kept h (row := none) ⟨hb.os, hb.tape, hb.output, hb.size, fun k hk _ => hb.block k hk⟩ (by cases v.ownBlock <;> simp)
theorem own_base {w : World} {base : Nat} {e : TypeId} {size n : Nat} {v : Value} {xs : List Value} (h : w.ownsRow base e size v n xs) : ∀ k, v.ownBlock = some k → base ≤ k := fun k hk => (h.lt k hk).1
/-- An edge is put behind a slice of the call's own. -/
theorem append_edge {ops : Array Oper} {rest : List Oper} {o : Oper} {a : Act} {Q : Exit → Act → World → Prop} (hgd : o.guard = none) (s x : Operand)
    (ho : o.op = .call { callee := .builtin .append, args := #[s, x], argTypes := #[62, 62] }) {w0 w : World} {v : Value} {zs : List E} {z : E}
    (hb : Below w0.heap.size w0 w) (hown : OwnE w0.heap.size w v zs) {g : Nat} (hs : a.eval s = v) (hx : a.eval x = .slice (some ⟨g, 0, none⟩) 1 1) (hg : g = w.heap.size) (hl : zs.length ≤ 1000000)
    (h : ∀ v' w', OwnE w0.heap.size w' v' (zs ++ [z]) → Below w0.heap.size w0 w' → (∀ i o', w.heap[i]? = some o' → v.ownBlock ≠ some i → w'.heap[i]? = some o') → wpList Try.prog ops Q rest (a.put o.dst v') w') :
    wpList Try.prog ops Q (o :: rest) a (w.alloc (.cells #[.int .i64 z.1, .int .i64 z.2.1, .int .i64 z.2.2.1, .int .i64 z.2.2.2] 33)) := by
  subst hg
  obtain ⟨i0, hi, hz0, hz1, hz2⟩ := info_parts info
  have hz := hb.size
  refine wpList_append_own _ hgd s x 62 ho w0.heap.size 33 i0 (.agg #[.int .i64 0, .int .i64 0, .int .i64 0, .int .i64 0]) 4 32 Try.underlying62 hi hz0 hz1 hz2 rfl (by decide) v zs.length (zs.flatMap encE) hs (hown.alloc _) ⟨w.heap.size, 0, none⟩ 1 1 (encE z) hx rfl ?_ ?_ (by simp only [maxLen]; omega) (by omega) (by simp; omega) ?_
  · intro t u hu
    match t, hu with
    | 0, hu => simp [encE] at hu; subst hu; simp [Addr.add]
    | 1, hu => simp [encE] at hu; subst hu; simp [Addr.add]
    | 2, hu => simp [encE] at hu; subst hu; simp [Addr.add]
    | 3, hu => simp [encE] at hu; subst hu; simp [Addr.add]
    | t + 4, hu => simp [encE] at hu
  · intro u hu
    simp [encE] at hu
    rcases hu with rfl | rfl | rfl | rfl <;> rfl
  · intro v' w' hown' hg _
    refine h v' w' ?_ ((hb.alloc hz _).grown hg (by simp; omega) (own_base hown)) fun i o' hi' hne => ?_
    · unfold OwnE
      rw [List.length_append, List.flatMap_append]
      simpa using hown'
    · have h1 : (w.alloc (.cells #[.int .i64 z.1, .int .i64 z.2.1, .int .i64 z.2.2.1, .int .i64 z.2.2.2] 33)).heap[i]? = some o' := heap_alloc_lt _ _ _ _ hi'
      exact (hg.block i (heap_lt h1) (fun e => hne e.symm)).trans h1
/-- What a call that tells a new list of edges leaves. -/
def EdsNew (xs : List E) (w : World) (e : Ending) (w' : World) : Prop := (∃ v, e = .returned v ∧ Eds w' v xs) ∧ Below w.heap.size w w'
end Go.Proofs.Ytmgkpabagpgilaa.Pk
namespace Go.Proofs.Ytmgkpabagpgilaa.Pk
open Go.ChangeShapes Go.WideShapes Go.ChangeAt Go.RowKit Base Go.Shelf Go.Lib Go.Sort
/-- An edge's box. -/
abbrev boxE (e : E) : Obj := .cells #[.int .i64 e.1, .int .i64 e.2.1, .int .i64 e.2.2.1, .int .i64 e.2.2.2] 33
/-- What holds between the rounds: the new one lies in its box, behind it the list that grows. -/
def PS (w : World) (e : E) (wr : World) (v : Value) (zs : List E) : Prop := Below (w.alloc (boxE e)).heap.size (w.alloc (boxE e)) wr ∧ OwnE (w.alloc (boxE e)).heap.size wr v zs
section
variable {w wr w1 : World} {e x : E} {v : Value} {zs : List E}
theorem PS.all (h : PS w e wr v zs) : Below w.heap.size w wr := ((Below.refl _ w).alloc (Nat.le_refl _) (boxE e)).trans (h.1.mono (by simp))
theorem PS.box (h : PS w e wr v zs) : wr.heap[w.heap.size]? = some (boxE e) := (h.1.block _ (by simp)).trans (heap_alloc_at _ _ _ rfl)
theorem PS.step (h : PS w e wr v zs) (hb : Below wr.heap.size wr w1) : PS w e w1 v zs := ⟨h.1.trans (hb.mono h.1.size), h.2.below hb⟩
theorem PS.alloc (h : PS w e wr v zs) (o : Obj) : PS w e (wr.alloc o) v zs := h.step ((Below.refl _ wr).alloc (Nat.le_refl _) o)
theorem PS.start (w : World) (e : E) : PS w e (w.alloc (boxE e)) (.slice none 0 0) [] := ⟨Below.refl _ _, OwnE.nil _ _⟩
theorem PS.own_ne (h : PS w e wr v zs) : v.ownBlock ≠ some wr.heap.size := fun hh => by have := (World.ownsRow.lt h.2 _ hh).2; omega
theorem PS.own_box (h : PS w e wr v zs) : v.ownBlock ≠ some w.heap.size := fun hh => by have := (World.ownsRow.lt h.2 _ hh).1; simp at this; omega
end
theorem fold_stepE {e : E} {xs : List E} {k : Nat} {s : Bool × List E} (hk : k < xs.length) (h : (xs.take k).foldl (stepE e) (false, []) = s) : (xs.take (k + 1)).foldl (stepE e) (false, []) = stepE e s (xs.getD k zE) := by
  rw [List.take_succ_eq_append_getElem hk, List.foldl_append, h]
  simp [hk]
theorem fold_lenE {e : E} {xs : List E} {k : Nat} {d : Bool} {zs : List E} (h : (xs.take k).foldl (stepE e) (false, []) = (d, zs)) : zs.length ≤ 2 * xs.length := by
  have h1 := stepE_len e (xs.take k) (false, [])
  rw [h, List.length_take] at h1
  simp at h1
  omega
end Go.Proofs.Ytmgkpabagpgilaa.Pk
namespace Go.Proofs.Ytmgkpabagpgilaa.Pk
open Go.ChangeShapes Go.WideShapes Go.ChangeAt Go.RowKit Base Go.Shelf Go.Lib Go.Sort
theorem edges_ext {xs ys : List E} (hl : xs.length = ys.length) (h : ∀ j, j < xs.length → xs.getD j zE = ys.getD j zE) : xs = ys := by
  refine List.ext_getElem hl fun i h1 h2 => ?_
  have := h i h1
  simpa [h1, h2] using this
/-- A slice of no element. -/
def NoneAt (w : World) (e : Ending) (w' : World) : Prop := ∃ p c, e = .returned (.slice p 0 c) ∧ Below w.heap.size w w'
set_option maxHeartbeats 1000000 in
theorem clone_none (p : Option Addr) (c : Nat) (w : World) : Calls Try.prog 34 #[.slice p 0 c] w (NoneAt w) := by
  cases p with
  | none => exact (AnyE.slices_Clone_nil Try.cloneEdges 0 c w).mono fun e w' ⟨he, hw⟩ => ⟨none, 0, he, by rw [hw]; exact Below.refl _ _⟩
  | some a =>
    obtain ⟨i0, hi, hz0, hz1, hz2⟩ := info_parts info
    have hq : ∀ (w : World) (n c n' c' : Nat), (binOp .eql 62 (.slice (some a) n c) (.slice none n' c')).run Try.prog w = .ok (.bool false) w := fun w n c n' c' => Lib.run_eql_slice_nil w _ _ (some a) n c n' c' Try.underlying62
    go_enter Try.func34, Try.ntmps34
    go_wp2_with (at_builtin; refine wpList_append_own _ rfl _ _ 62 rfl w.heap.size 33 i0 (.agg #[.int .i64 0, .int .i64 0, .int .i64 0, .int .i64 0]) 4 32 Try.underlying62 hi hz0 hz1 hz2 rfl (by decide) _ _ _ rfl (World.ownsRow_made w #[] 0 (Nat.le_refl _) (Nat.zero_le _) (by simp)) a 0 c [] rfl ?qc1 ?qc2 ?qc3 ?qc4 ?qc5 ?qc6 ?_)
    case qc1 => rfl
    case qc2 => intro j u hj; simp at hj
    case qc3 => intro u hu; simp at hu
    case qc4 => simp [maxLen]
    case qc5 => simp
    case qc6 => simp
    intro v' w1 hown hgrow hnil
    have hv : ∃ p' c', v' = .slice p' 0 c' := by
      rcases hown.2 with ⟨h1, _⟩ | ⟨g, cap, _, h1, _⟩
      · exact ⟨_, _, h1⟩
      · exact ⟨_, _, h1⟩
    obtain ⟨p', c', rfl⟩ := hv
    have HB : Hid (Below w.heap.size w w1) := Lib.hid (((Below.refl _ w).alloc (Nat.le_refl _) _).grown hgrow (by simp) (by intro k hk; simp [Value.ownBlock] at hk; omega))
    have HP : Hid (NoneAt w (.returned (.slice p' 0 c')) w1) := Lib.hid ⟨p', c', rfl, HB.out⟩
    clear hown hgrow hnil hq HB
    go_wp2
    go_ret
    exact HP.out
set_option maxHeartbeats 1000000 in
theorem compact_none (p : Option Addr) (c : Nat) (w : World) : Calls Try.prog 37 #[.slice p 0 c] w fun e w' => e = .returned (.slice p 0 c) ∧ w = w' := by
  go_enter Try.func37, Try.ntmps37
  go_wp2
  go_ret
  exact ⟨rfl, rfl⟩
set_option maxHeartbeats 1000000 in
theorem sort_none (p : Option Addr) (c : Nat) (w : World) : Calls Try.prog 21 #[.slice p 0 c] w (NoneAt w) := by
  have HC := Lib.hid (clone_none p c w)
  go_enter Try.func21, Try.ntmps21
  go_wp2_with fail
  refine (HC.out).mono ?_
  rintro e w1 ⟨p1, c1, rfl, hb⟩
  have HS := Lib.hid (AnyF.slices_SortFunc_none Try.sortEdges p1 c1 (.func (.func 36) #[] #[]) w1)
  have HP : Hid (NoneAt w (.returned (.slice p1 0 c1)) w1) := Lib.hid ⟨p1, c1, rfl, hb⟩
  clear hb HC
  go_wp2_with fail
  refine (HS.out).mono ?_
  rintro e w2 ⟨rfl, rfl⟩
  go_wp2_with fail
  refine (compact_none p1 c1 _).mono ?_
  rintro e w3 ⟨rfl, rfl⟩
  go_wp2
  go_ret
  exact HP.out
/-- pack.Sort on whatever list of edges. -/
theorem sortE_any {v : Value} {xs : List E} (w : World) (hx : Eds w v xs) (hl : xs.length ≤ 1000000) : Calls Try.prog 21 #[v] w (EdsNew (sortL xs) w) := by
  rcases hx with ⟨⟨p, c, rfl⟩, rfl⟩ | ⟨g, o, c, rfl, _, h2, h3⟩
  · exact (sort_none p c w).mono fun e w' ⟨p', c', he, hb⟩ => ⟨⟨_, he, .inl ⟨⟨_, _, rfl⟩, rfl⟩⟩, hb⟩
  · have hs := sort_any g o c xs.toArray w (by simpa using hl) (by
      intro j u hj
      have hjl : j < xs.length * 4 := by
        have := (List.getElem?_eq_some_iff.1 hj).1
        simpa using this
      have hk : j / 4 < xs.length := by omega
      obtain ⟨c0, c1, c2, c3⟩ := h3 (j / 4) hk
      have hu : (flatK encE 4 xs.toArray)[j]! = u := by
        obtain ⟨hlt, hh⟩ := List.getElem?_eq_some_iff.1 hj
        rw [getElem!_pos _ j (by simpa using hlt)]
        simpa using hh
      rw [get_flatK encE 4 xs.toArray j (by simpa using hjl)] at hu
      have hx : xs.toArray[j / 4]! = xs.getD (j / 4) zE := by
        rw [getElem!_pos xs.toArray (j / 4) (by simpa using hk)]
        simp [hk]
      rw [hx] at hu
      have h4 : j % 4 = 0 ∨ j % 4 = 1 ∨ j % 4 = 2 ∨ j % 4 = 3 := by omega
      have e : ∀ r, j % 4 = r → o + j = o + j / 4 * 4 + r := fun r hr => by omega
      rcases h4 with h | h | h | h
      · rw [h] at hu; rw [e 0 h, ← hu]; exact c0
      · rw [h] at hu; rw [e 1 h, ← hu]; exact c1
      · rw [h] at hu; rw [e 2 h, ← hu]; exact c2
      · rw [h] at hu; rw [e 3 h, ← hu]; exact c3)
    rw [show xs.toArray.size = xs.length by simp] at hs
    refine hs.mono fun e w' hh => ?_
    obtain ⟨g', c', he, hH, _, hb⟩ := hh
    rw [sortedE_eq, List.toList_toArray] at he hH
    refine ⟨⟨_, he, ?_⟩, hb⟩
    by_cases h0 : (sortL xs).length = 0
    · rw [h0]
      exact .inl ⟨⟨_, _, rfl⟩, List.length_eq_zero_iff.1 h0⟩
    · have hc : ∀ k, k < (sortL xs).length → (sortL xs).toArray[k]! = (sortL xs).getD k zE := fun k hk => by
        rw [getElem!_pos (sortL xs).toArray k (by simpa using hk)]
        simp [hk]
      refine .inr ⟨g', 0, c', rfl, ?_, Nat.le_trans (sortL_len xs) h2, fun k hk => ?_⟩
      · have := (cellsE hH (i := 0) (by simp; omega)).1.1
        exact World.block_lt_of_cell? _ _ this
      · have := (cellsE hH (i := k) (by simpa using hk)).1
        rw [hc k hk] at this
        exact this
end Go.Proofs.Ytmgkpabagpgilaa.Pk
