/-
  A contract for slices.Compact at edges: what is left of a row. Not a statement of the seat.
-/
import Derived.Test.YtjknnbeemcpppaaDoorPkRow
import Derived.Lib.SlicesCompact
import Derived.Deep.LoopGhost
import Derived.Laws.StructEq
namespace Go.Proofs.YtjknnbeemcpppaaDoor.Pk
open Go.ChangeShapes Go.WideShapes Go.ChangeAt Go.RowKit Base Go.Shelf Go.Lib Go.Sort
set_option maxHeartbeats 4000000 in
theorem compact_any (blk off cap : Nat) (d : Array E) (w : World) (hH : HoldsK encE 4 w blk off d) (hsz : d.size ≤ 1000000) (hcap : d.size ≤ cap) :
    Calls Tryd.prog 39 #[.slice (some ⟨blk, off, none⟩) d.size cap] w (Compacted d blk off cap w) := by
  have heq := eqE
  have hne := neE
  by_cases h2 : d.size < 2
  · have H0 := compacted_all (cap := cap) hH (fun j hj => keeps_lt_one d j (by omega)) 0
    generalize hP : Compacted d blk off cap w = Post at H0 ⊢
    clear hP hH heq hne
    go_enter Tryd.func39, Tryd.ntmps39
    go_wp2
    exact H0
  · have HALL : Hid (∀ q, (∀ j, j < d.size → keeps d j = true) → Compacted d blk off cap w (.returned (.slice (some ⟨blk, off, none⟩) d.size cap)) (w.drewN q)) := Lib.hid fun q h => compacted_all hH h q
    have HEND : Hid (∀ (dk : Array E) (kk q : Nat) (wr : World), CompInv d d.size kk dk → wr = putRowK encE 4 (Sort.ahead w q) blk off dk → HoldsK encE 4 wr blk off dk → ∀ vs : List Value, vs.length = (d.size - kk) * 4 → Compacted d blk off cap w (.returned (.slice (some ⟨blk, off, none⟩) kk cap)) (wr.setCells blk (off + kk * 4) vs)) :=
      Lib.hid fun dk kk q wr h1 h2 h3 vs h4 => compacted_end h1 h2 h3 vs h4
    generalize hP : Compacted d blk off cap w = Post at HALL HEND ⊢
    clear hP
    go_enter Tryd.func39, Tryd.ntmps39
    go_wp2
    go_loopg [3] d.size (fun g s3 wr => ∃ k q : Nat, 1 ≤ k ∧ k ≤ d.size ∧ d.size - k ≤ g ∧ s3 = .int .i64 k ∧ wr = w.drewN q ∧ ∀ j, j < k → keeps d j = true)
    case atStart => exact ⟨1, 0, Nat.le_refl _, by omega, by omega, rfl, rfl, keeps_lt_one d⟩
    case round =>
      obtain ⟨k, q, hk1, hk, hg, rfl, rfl, hall⟩ := hrel
      by_cases hlt : k < d.size
      · obtain ⟨⟨c0, c1, c2, c3⟩, _⟩ := cellsE hH hlt
        obtain ⟨⟨b0, b1, b2, b3⟩, _⟩ := cellsE hH (i := k - 1) (by omega)
        have A : Hid (∀ j, j < k → keeps d j = true) := Lib.hid hall
        have HH := Lib.hid hH
        clear hall hH
        generalize hx : d[k]! = x at c0 c1 c2 c3
        generalize hy : d[k - 1]! = y at b0 b1 b2 b3
        have B := Lib.hid (And.intro hx hy)
        clear hx hy
        have hq1 := heq x y
        have HEQ := Lib.hid heq
        have HNE := Lib.hid hne
        clear heq hne
        by_cases hdup : x = y
        · rw [decide_eq_true hdup] at hq1
          have HD := Lib.hid hdup
          clear hdup
          go_wp2_with fail
          go_quiet (fail)
          go_wp2
          clear c0 c1 c2 c3 b0 b1 b2 b3 hq1
          go_loopg [3, 5] d.size (fun g s3 s5 wr => ∃ (kk k2 q2 : Nat) (dk : Array E), s3 = .int .i64 kk ∧ s5 = .int .i64 k2 ∧ 1 ≤ k2 ∧ k + k2 ≤ d.size ∧ d.size - (k + k2) ≤ g ∧ wr = putRowK encE 4 (Sort.ahead w q2) blk off dk ∧ CompInv d (k + k2) kk dk)
          case atStart => exact ⟨k, 1, q + nq, d, rfl, rfl, Nat.le_refl _, by omega, by omega, (putRowK_self encE 4 (Sort.ahead w (q + nq)) blk off d (holdsK_ahead encE 4 w (q + nq) blk off d HH.out)).symm, CompInv.start A.out (keeps_neg (by omega) (by rw [B.out.1, B.out.2, HD.out]))⟩
          case round =>
            obtain ⟨kk, k2, q2, dk, rfl, rfl, h1, hle, hg2, hwr, hI⟩ := hrel
            have hkk := hI.lt
            have hds := hI.size
            have hHk : HoldsK encE 4 wr blk off dk := by rw [hwr]; exact holdsK_putRowK encE 4 _ blk off d dk (holdsK_ahead encE 4 w q2 blk off d HH.out) hds
            have W2 := Lib.hid hwr
            have I2 := Lib.hid hI
            have HK := Lib.hid hHk
            clear hwr
            by_cases hlt2 : k + k2 < d.size
            · obtain ⟨⟨m0, m1, m2, m3⟩, _⟩ := cellsE hHk (i := k + k2) (by omega)
              obtain ⟨⟨p0, p1, p2, p3⟩, _⟩ := cellsE hHk (i := k + k2 - 1) (by omega)
              obtain ⟨⟨o0, o1, o2, o3⟩, ⟨f0, f1, f2, f3⟩⟩ := cellsE hHk (i := kk) (by omega)
              rw [hI.high (k + k2) (by omega), show off + (k + k2) * 4 = off + k * 4 + k2 * 4 by omega] at m0 m1 m2 m3
              rw [hI.high (k + k2 - 1) (by omega), show off + (k + k2 - 1) * 4 = off + k * 4 + (k2 - 1) * 4 by omega] at p0 p1 p2 p3
              clear hHk hI
              generalize hu : d[k + k2]! = u at m0 m1 m2 m3
              generalize hv : d[k + k2 - 1]! = v at p0 p1 p2 p3
              generalize dk[kk]! = old at o0 o1 o2 o3
              have C := Lib.hid (And.intro hu hv)
              clear hu hv
              have hq2 := HNE.out u v
              by_cases huv : u = v
              · rw [decide_eq_true huv] at hq2
                have HU := Lib.hid huv
                clear huv
                go_wp2_with fail
                go_quiet (fail)
                go_wp2
                go_roundg (d.size - (k + (k2 + 1)))
                case measure => omega
                case rel => exact ⟨kk, k2 + 1, q2 + nq, dk, rfl, by go_num, by omega, by omega, Nat.le_refl _, by rw [W2.out, putRowK_drewN], I2.out.skip (keeps_neg (by omega) (by rw [C.out.1, C.out.2, HU.out]))⟩
              · rw [decide_eq_false huv] at hq2
                have HU := Lib.hid huv
                clear huv
                go_wp2_with fail
                go_quiet (fail)
                go_wp2_with fail
                go_roundg (d.size - (k + (k2 + 1)))
                case measure => omega
                case rel =>
                  have hlt3 : kk < dk.size := by omega
                  have hS := store_world4 (q := nq) hlt3 W2.out u
                  have hK := I2.out.keep hlt2 (keeps_pos (by rw [C.out.1, C.out.2]; exact HU.out))
                  rw [C.out.1] at hK
                  refine ⟨kk + 1, k2 + 1, q2 + nq, dk.setIfInBounds kk u, ?_, ?_, ?_, ?_, Nat.le_refl _, hS, hK⟩
                  · go_num
                  · go_num
                  · omega
                  · omega
            · have hend : k + k2 = d.size := by omega
              obtain ⟨vs, hvl, hcl⟩ := clear4 wr blk (off + kk * 4) (d.size - kk) (cap - kk) (by omega)
                (fun j hj => by have := hHk (kk * 4 + j) (by simp; omega); rw [← Nat.add_assoc] at this; rw [this.1]; rfl) (fun j hj => by have := hHk (kk * 4 + j) (by simp; omega); rw [← Nat.add_assoc] at this; exact this.2)
              have HE := Lib.hid (HEND.out dk kk q2 wr (by rw [hend] at hI; exact hI) W2.out hHk vs hvl)
              clear hHk hI HEND HALL
              go_wp2
              exact HE.out
        · rw [decide_eq_false hdup] at hq1
          have HD := Lib.hid hdup
          clear hdup
          go_wp2_with fail
          go_quiet (fail)
          go_wp2
          go_roundg (d.size - (k + 1))
          case measure => omega
          case rel =>
            refine ⟨k + 1, q + nq, by omega, by omega, Nat.le_refl _, by go_num, rfl, fun j hj => ?_⟩
            by_cases e : j = k
            · subst e
              exact keeps_pos (by rw [B.out.1, B.out.2]; exact HD.out)
            · exact A.out j (by omega)
      · have hk' : k = d.size := by omega
        clear hH heq hne
        go_wp2
        exact HALL.out q (fun j hj => hall j (by omega))
end Go.Proofs.YtjknnbeemcpppaaDoor.Pk
