/-
  Shortest walks: contracts of To, Must and nearer. Not a statement of the seat.
-/
import Derived.Test.YtimgdkafennohaaDs7
import Derived.Test.YtimgdkafennohaaHead16
namespace Go.Proofs.Ytimgdkafennohaa.Ds
open Go.ChangeShapes Go.WideShapes Go.ChangeAt Go.RowKit Base F Gr
set_option maxRecDepth 100000 in
theorem to_any {w : World} {n : Nat} {pg : Option Addr} {pv : Int → Nat → List Nat} (hn : n ≤ 4096) (hN : NodesOk w n pg) (hP : PvOk w n pg pv) (mask node least : Int) : Calls Try.prog 6 #[.pointer pg, .int .i64 mask, .int .i64 node, .int .i64 least] w (AnsP w n 0 (okP n least) (pvP pv mask 0) (startP n node)) := by
  have HS : Hid (Calls Try.prog 14 #[.pointer pg, .agg #[.int .i64 mask, .int .i64 0, .int .i64 least], .int .i64 node, .int .i64 0] w (AnsP w n 0 (okP n least) (pvP pv mask 0) (startP n node))) := Lib.hid (shortest_any hn hN hP mask 0 least node 0 (by omega))
  clear hN hP hn
  go_enter Try.func6, Try.ntmps6
  go_wp2_with fail
  refine HS.out.mono ?_
  rintro e w2 ⟨v, d, rfl, hd, ho, hb⟩
  have HP : Hid (AnsP w n 0 (okP n least) (pvP pv mask 0) (startP n node) (.returned v) w2) := Lib.hid ⟨v, d, rfl, hd, ho, hb⟩
  clear hd ho hb HS
  go_wp2
  go_ret
  exact HP.out
set_option maxRecDepth 100000 in
theorem must_any {w : World} {n : Nat} {pg : Option Addr} {pv : Int → Nat → List Nat} (hn : n ≤ 4096) (hN : NodesOk w n pg) (hP : PvOk w n pg pv) (mask must node least : Int) : Calls Try.prog 11 #[.pointer pg, .int .i64 mask, .int .i64 must, .int .i64 node, .int .i64 least] w (AnsP w n 1 (okP n least) (pvP pv mask must) (startP n node)) := by
  have HS : Hid (Calls Try.prog 14 #[.pointer pg, .agg #[.int .i64 mask, .int .i64 must, .int .i64 least], .int .i64 node, .int .i64 1] w (AnsP w n 1 (okP n least) (pvP pv mask must) (startP n node))) := Lib.hid (shortest_any hn hN hP mask must least node 1 (by omega))
  clear hN hP hn
  go_enter Try.func11, Try.ntmps11
  go_wp2_with fail
  refine HS.out.mono ?_
  rintro e w2 ⟨v, d, rfl, hd, ho, hb⟩
  have HP : Hid (AnsP w n 1 (okP n least) (pvP pv mask must) (startP n node) (.returned v) w2) := Lib.hid ⟨v, d, rfl, hd, ho, hb⟩
  clear hd ho hb HS
  go_wp2
  go_ret
  exact HP.out
set_option maxRecDepth 100000 in
/-- An arc stored into a box. -/
theorem wpList_store_arc {ops : Array Oper} {rest : List Oper} {o : Oper} {a : Act} {w : World} {Q : Exit → Act → World → Prop} (hgd : o.guard = none) (x y : Operand) (ho : o.op = .store 32 x y)
    (g : Nat) (c c0 : Arc) (hx : a.eval x = .pointer (some ⟨g, 0, none⟩)) (hy : a.eval y = vA c) (hg : w.heap[g]? = some (bxA c0))
    (h : ∀ w', Stored w g (bxA c) w' → wpList Try.prog ops Q rest (a.put o.dst undef) w') : wpList Try.prog ops Q (o :: rest) a w :=
  wpList_store_row hgd _ x y ho g _ hx hy 32 _ hg (by kernel_rfl) rfl (by simp [Value.oneCell']) (h _ (stored_setRow _ _ _ _ _ hg))
theorem results_arc {fn : Func} {p : Tmp} (h : fn.results = #[.cell p 32]) (tmps : Array Value) (w : World) (g : Nat) (c : Arc)
    (hp : tmps.getD p undef = .pointer (some ⟨g, 0, none⟩)) (hg : w.heap[g]? = some (bxA c)) : (results fn tmps).run Try.prog w = .ok (vA c) w :=
  results_cell_row h tmps w g _ _ _ _ hp hg Try.underlying32 rfl (by kernel_rfl)
def NearP (w : World) (l : List Arc) (zs : List Int) (most : Int) (e : Ending) (w' : World) : Prop := ∃ a, a ∈ l ∧ zs.getD a.to.toNat 0 = most ∧ e = .returned (vA a) ∧ Below w.heap.size w w'
set_option maxRecDepth 100000 in
set_option maxHeartbeats 4000000 in
theorem nearer_any {w : World} {v lv : Value} {l : List Arc} {zs : List Int} {most : Int} (h : Arcs 0 w v l) (hl : l.length ≤ 400) (hz : Lst.Ints 0 w lv zs) (hzl : zs.length ≤ 4096) (hr : ∀ a ∈ l, 0 ≤ a.to ∧ a.to < (zs.length : Int)) (hex : ∃ a ∈ l, zs.getD a.to.toNat 0 = most) :
    Calls Try.prog 17 #[v, .int .i64 most, lv] w (NearP w l zs most) := by
  obtain ⟨p, c, rfl, hlm, hc⟩ := h.open_
  obtain ⟨pz, cz, rfl, hzm, hcz⟩ := hz.open_
  have HC := Lib.hid hc
  have HZ := Lib.hid hcz
  have HR : Hid (∀ i, i < l.length → 0 ≤ (l.getD i Arc.zero).to ∧ (l.getD i Arc.zero).to < (zs.length : Int) ∧ l.getD i Arc.zero ∈ l) := Lib.hid fun i hi => by
    have e : l.getD i Arc.zero = l[i] := by simp [List.getD_eq_getElem?_getD, hi]
    rw [e]
    have := hr _ (List.getElem_mem hi)
    exact ⟨this.1, this.2, List.getElem_mem hi⟩
  have HEX : Hid (¬ ∀ i, i < l.length → zs.getD (l.getD i Arc.zero).to.toNat 0 ≠ most) := Lib.hid fun hh => by
    obtain ⟨a, ha, he⟩ := hex
    obtain ⟨i, hi, rfl⟩ := List.getElem_of_mem ha
    refine hh i hi ?_
    have e : l.getD i Arc.zero = l[i] := by simp [List.getD_eq_getElem?_getD, hi]
    rw [e]
    exact he
  obtain ⟨M, hM⟩ : ∃ M, M = l.length := ⟨_, rfl⟩
  obtain ⟨K, hK⟩ : ∃ K, K = zs.length := ⟨_, rfl⟩
  have hMi : (M : Int) ≤ 400 := by omega
  have hKi : (K : Int) ≤ 4096 := by omega
  rw [← hM] at HC HR HEX ⊢
  rw [← hK] at HZ HR ⊢
  clear h hz hc hcz hr hex hM hK hlm hzm hl hzl
  go_enter Try.func17, Try.ntmps17
  go_wp2_with fail
  obtain ⟨w1, hw1⟩ : ∃ X, X = w.alloc (.cells #[.int .i64 0, .int .i64 0, .int .i64 0, .int .i64 0] 32) := ⟨_, rfl⟩
  have HB1 : Hid (Below w.heap.size w w1 ∧ w1.heap[w.heap.size]? = some (bxA Arc.zero)) := Lib.hid (by rw [hw1]; exact ⟨(Below.refl _ _).alloc (Nat.le_refl _) _, heap_alloc_at _ _ _ rfl⟩)
  rw [← hw1]
  clear hw1
  go_loopw [11] (fun s11 wr => ∃ i : Nat, s11 = .int .i64 (i : Int) ∧ i ≤ M ∧ Hid (Below w.heap.size w wr ∧ wr.heap[w.heap.size]? = some (bxA Arc.zero) ∧ ∀ j, j < i → zs.getD (l.getD j Arc.zero).to.toNat 0 ≠ most)) (fun s11 _ => M - (intOf s11).toNat)
  case atStart => exact ⟨0, rfl, Nat.zero_le _, Lib.hid ⟨HB1.out.1, HB1.out.2, fun j hj => absurd hj (by omega)⟩⟩
  case round =>
    obtain ⟨i, rfl, hi, HI⟩ := hrel
    by_cases hlt : i < M
    · obtain ⟨g, o, rfl, _, hg, c0, c1, c2, c3⟩ := HC.out i hlt
      obtain ⟨r1, r2, r3⟩ := HR.out i hlt
      have HIN := Lib.hid r3
      have hbw := HI.out.1
      have c0 := (hbw.cell (p := ⟨g, _, none⟩) hg).trans c0
      have c1 := (hbw.cell (p := ⟨g, _, none⟩) hg).trans c1
      have c2 := (hbw.cell (p := ⟨g, _, none⟩) hg).trans c2
      have c3 := (hbw.cell (p := ⟨g, _, none⟩) hg).trans c3
      have hg := Nat.lt_of_lt_of_le hg hbw.size
      have HWB : Hid (w.heap.size < wr.heap.size) := Lib.hid (heap_lt HI.out.2.1)
      have hiI : (i : Int) < (M : Int) := by omega
      have HNO : Hid (∀ j, j < i + 1 → j ≠ i → zs.getD (l.getD j Arc.zero).to.toNat 0 ≠ most) := Lib.hid fun j h1 h2 => HI.out.2.2 j (by omega)
      have HLE : Hid (l.getD i Arc.zero = l.getD i Arc.zero) := Lib.hid rfl
      generalize hx : l.getD i Arc.zero = x at c0 c1 c2 c3 r1 r2 HIN
      obtain ⟨tt, htt⟩ := Int.eq_ofNat_of_zero_le r1
      obtain ⟨x0, x1, x2, x3⟩ := x
      simp only at c0 c1 c2 c3 r1 r2 htt
      subst htt
      have htl : tt < K := by omega
      obtain ⟨gz, oz, rfl, _, hgz, d0⟩ := HZ.out tt htl
      have d0 := (hbw.cell (p := ⟨gz, _, none⟩) hgz).trans d0
      have hgz := Nat.lt_of_lt_of_le hgz hbw.size
      have HXE := Lib.hid hx
      have HBW := Lib.hid hbw
      have HBX := Lib.hid HI.out.2.1
      obtain ⟨zt, hzt⟩ : ∃ zt, zt = zs.getD tt 0 := ⟨_, rfl⟩
      have HZT := Lib.hid hzt
      rw [← hzt] at d0
      clear hx hbw HI HLE hzt
      by_cases hm : zt = most
      · subst hm
        have HRES : Hid (∀ u, Below w.heap.size w u → NearP w l zs zt (.returned (vA ⟨x0, (tt : Int), x2, x3⟩)) u) := Lib.hid fun u hu => ⟨⟨x0, (tt : Int), x2, x3⟩, HIN.out, by show zs.getD tt 0 = zt; exact HZT.out.symm, rfl, hu⟩
        clear HXE HNO HIN HZT
        go_wp2_with (refine wpList_store_arc rfl (.tmp 6) (.tmp 22) rfl w.heap.size ⟨x0, (tt : Int), x2, x3⟩ Arc.zero rfl rfl (heap_alloc_lt _ _ _ _ HBX.out) ?_; intro w4 hst; have HST := Lib.hid hst; clear hst)
        exact bodyPost_ret (results_arc Try.results17 _ _ w.heap.size ⟨x0, (tt : Int), x2, x3⟩ rfl HST.out.2.2.2.2.1) rfl (HRES.out _ (HST.out.below (HBW.out.alloc HBW.out.size _) (Nat.le_refl _)))
      · go_wp2_with fail
        go_roundw
        case rel => exact ⟨i + 1, by go_num, hlt, Lib.hid ⟨HBW.out.alloc HBW.out.size _, heap_alloc_lt _ _ _ _ HBX.out, fun j hj => by
          by_cases e : j = i
          · subst e
            rw [HXE.out]
            show zs.getD tt 0 ≠ most
            rw [← HZT.out]
            exact hm
          · exact HNO.out j hj e⟩⟩
        case measure => simp [intOf]; omega
    · exact absurd (fun j hj => HI.out.2.2 j (by omega)) HEX.out
end Go.Proofs.Ytimgdkafennohaa.Ds
