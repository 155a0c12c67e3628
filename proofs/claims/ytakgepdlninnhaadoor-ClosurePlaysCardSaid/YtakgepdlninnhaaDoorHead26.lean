/-
  Contracts of small functions, several texts laid into one. Not a statement of the seat.
-/
import Derived.Test.YtakgepdlninnhaaDoorHead25
import Derived.Test.YtakgepdlninnhaaDoorHead14
import Derived.Test.YtakgepdlninnhaaDoorHead13
import Derived.Test.YtakgepdlninnhaaDoorHead11
namespace Go.Proofs.YtakgepdlninnhaaDoor.Sc
open Go.ChangeShapes Go.WideShapes Go.ChangeAt Go.RowKit Base F Bits Gr Rf
theorem own_down {B B' : Nat} {w : World} {v : Value} {zs : List Int} (h : Lst.OwnI B w v zs) (hb : B' ≤ B) : Lst.OwnI B' w v zs := by
  refine ⟨h.1, ?_⟩
  rcases h.2 with h | ⟨g, cap, cur, h1, h2, h3⟩
  · exact .inl h
  · exact .inr ⟨g, cap, cur, h1, Nat.le_trans hb h2, h3⟩
theorem runsA_succ (l : List Arc) : ∀ (k : Nat) (out : List Int), runsA l (k + 1) out = passA l (runsA l k out)
  | 0, _ => rfl
  | k + 1, out => by
    show runsA l (k + 1) (passA l out) = _
    rw [runsA_succ l k]
    rfl
theorem putF_len (x : Int) : ∀ l : List Int, (putF x l).length ≤ l.length + 1
  | [] => by simp [putF]
  | y :: l => by
    unfold putF
    split
    · rw [List.length_cons]
      have := List.length_filter_le (fun z => z != x) (y :: l)
      simp at this ⊢
      omega
    · rw [List.length_cons, List.length_cons]
      have := putF_len x l
      omega
theorem stepA_len (out : List Int) (x : Arc) : (stepA out x).length ≤ out.length + 1 := by
  unfold stepA
  split
  · exact putF_len _ _
  · omega
theorem fold_len : ∀ (m : List Arc) (out : List Int), (m.foldl stepA out).length ≤ out.length + m.length
  | [], out => by simp
  | x :: m, out => by
    have h1 := stepA_len out x
    have h2 := fold_len m (stepA out x)
    rw [List.foldl_cons, List.length_cons]
    omega
theorem runs_len (l : List Arc) (out : List Int) : ∀ k, (runsA l k out).length ≤ out.length + k * l.length
  | 0 => by simp [runsA]
  | k + 1 => by
    rw [runsA_succ]
    have h1 := fold_len l (runsA l k out)
    have h2 := runs_len l out k
    unfold passA
    rw [Nat.succ_mul]
    omega
/-- Where the document's search is: i passes are done, and k arcs of the next. -/
def outR (l : List Arc) (s : Int) (i k : Nat) : List Int := (l.take k).foldl stepA (runsA l i (sideO l s false))
theorem outR_step {l : List Arc} {s : Int} {i k : Nat} {x : Arc} (h : l.take (k + 1) = l.take k ++ [x]) : outR l s i (k + 1) = stepA (outR l s i k) x := by
  unfold outR
  rw [h, List.foldl_append]
  rfl
theorem outR_pass (l : List Arc) (s : Int) (i : Nat) : outR l s i l.length = outR l s (i + 1) 0 := by
  unfold outR
  rw [List.take_length, runsA_succ]
  rfl
theorem outR_len (l : List Arc) (s : Int) (i k : Nat) (hl : l.length ≤ 60) (hi : i ≤ 61) : (outR l s i k).length ≤ 5000 := by
  unfold outR
  have h1 := fold_len (l.take k) (runsA l i (sideO l s false))
  have h2 := runs_len l (sideO l s false) i
  have h3 := sideO_len l s false
  have h4 : i * l.length ≤ 61 * 60 := Nat.mul_le_mul hi hl
  have h5 : (l.take k).length ≤ l.length := by rw [List.length_take]; omega
  omega
/-- What the search carries. -/
def RE (w : World) (v : Value) (zs : List Int) (wr : World) : Prop := Lst.Ints w.heap.size wr v zs ∧ Below w.heap.size w wr ∧ Lst.OwnI w.heap.size wr v zs
theorem RE.below {w wr w' : World} {v : Value} {zs : List Int} (h : RE w v zs wr) (hb : Below wr.heap.size wr w') : RE w v zs w' := ⟨h.1.below hb, h.2.1.trans (hb.mono h.2.1.size), h.2.2.below hb⟩
theorem own_ints' {B : Nat} {w : World} {v : Value} {zs : List Int} (h : Lst.OwnI B w v zs) (hl : zs.length ≤ 100000) : Lst.Ints B w v zs := by
  rcases h.ints (by omega) with h1 | ⟨g, o, c, h1, _, h3, h4, h5⟩
  · exact .inl h1
  · exact .inr ⟨g, o, c, h1, Lst.own_base h g (by rw [h1]; rfl), h3, h4, h5⟩
theorem RE.new {w wr w' : World} {v : Value} {zs : List Int} (hb : Below w.heap.size w wr) (ho : Lst.OwnI wr.heap.size w' v zs) (hb2 : Below wr.heap.size wr w') (hl : zs.length ≤ 100000) : RE w v zs w' :=
  have h := own_down ho hb.size
  ⟨own_ints' h hl, hbt hb hb2, h⟩
set_option maxRecDepth 100000 in
set_option maxHeartbeats 8000000 in
theorem reach_any {v : Value} {l : List Arc} (s : Int) (w : World) (h : Arcs 0 w v l) (hl : l.length ≤ 60) : Calls Tryd.prog 24 #[v, .int .i64 s] w (NumN w (reachR l s)) := by
  have HNX := Lib.hid (gnext_fwd s w h (by omega))
  obtain ⟨p, c, rfl, _, hc⟩ := h.open_
  obtain ⟨M, hM⟩ : ∃ M, M = l.length := ⟨_, rfl⟩
  have hMi : (M : Int) ≤ 60 := by omega
  rw [← hM] at HNX ⊢
  have HC : Hid (∀ k, k < M → ∃ g o, p = some ⟨g, o, none⟩ ∧ ∃ x : Arc, l.take (k + 1) = l.take k ++ [x] ∧ g < w.heap.size ∧ (w.cell? ⟨g, o + k * 4, none⟩ = some (.int .i64 x.fr) ∧ w.cell? ⟨g, o + k * 4 + 1, none⟩ = some (.int .i64 x.to) ∧ w.cell? ⟨g, o + k * 4 + 2, none⟩ = some (.int .i64 x.kd) ∧ w.cell? ⟨g, o + k * 4 + 3, none⟩ = some (.int .i64 x.lb))) := Lib.hid fun k hk => by
    have hk2 : k < l.length := by omega
    obtain ⟨g, o, h1, _, h2, h3, h4, h5, h6⟩ := hc k hk2
    exact ⟨g, o, h1, _, by rw [List.take_succ_eq_append_getElem hk2]; simp [List.getD_eq_getElem?_getD, hk2], h2, h3, h4, h5, h6⟩
  have HLN : Hid (∀ i k, i ≤ M + 1 → (outR l s i k).length ≤ 5000) := Lib.hid fun i k hi => outR_len l s i k hl (by omega)
  have HPS : Hid (∀ i, outR l s i M = outR l s (i + 1) 0) := Lib.hid fun i => by rw [hM]; exact outR_pass l s i
  have HRS : Hid (outR l s (M + 1) 0 = reachR l s) := Lib.hid (by rw [hM]; rfl)
  have H00 : Hid (outR l s 0 0 = sideO l s false) := Lib.hid rfl
  rw [← H00.out] at HNX
  rw [← HRS.out]
  clear hc hM hl h
  go_enter Tryd.func24, Tryd.ntmps24
  go_wp2_with fail
  refine HNX.out.mono ?_
  rintro e w1 ⟨v0, rfl, ho, hb⟩
  have H0 := Lib.hid (RE.new (Below.refl _ _) ho hb (by have := HLN.out 0 0 (by omega); omega))
  clear ho hb HNX
  go_wp2_with fail
  go_loopw [5, 6] (fun s5 s6 wr => ∃ (i : Nat) (u : Value), s6 = .int .i64 (i : Int) ∧ u = s5 ∧ i ≤ M + 1 ∧ Hid (RE w u (outR l s i 0) wr)) (fun _ s6 _ => M + 1 - (intOf s6).toNat)
  case atStart => exact ⟨0, _, rfl, rfl, Nat.zero_le _, H0⟩
  case round =>
    clear H0
    obtain ⟨i, u, rfl, rfl, hi, HR⟩ := hrel
    by_cases hiM : i ≤ M
    · have hii : (i : Int) ≤ (M : Int) := by omega
      go_wp2_with fail
      go_loopw [5, 20] (fun s5 s20 wr => ∃ (k : Nat) (u : Value), s20 = .int .i64 (k : Int) ∧ u = s5 ∧ k ≤ M ∧ Hid (RE w u (outR l s i k) wr)) (fun _ s20 _ => M - (intOf s20).toNat)
      case atStart => exact ⟨0, _, rfl, rfl, Nat.zero_le _, HR⟩
      case round =>
        clear HR
        obtain ⟨k, u, rfl, rfl, hk, HR⟩ := hrel
        by_cases hlt : k < M
        · obtain ⟨g, o, rfl, x, htk, hg, c0, c1, c2, c3⟩ := HC.out k hlt
          have hkI : (k : Int) < (M : Int) := by omega
          have hbw := HR.out.2.1
          have c0 := (hbw.cell (p := ⟨g, _, none⟩) hg).trans c0
          have c1 := (hbw.cell (p := ⟨g, _, none⟩) hg).trans c1
          have c2 := (hbw.cell (p := ⟨g, _, none⟩) hg).trans c2
          have c3 := (hbw.cell (p := ⟨g, _, none⟩) hg).trans c3
          have hST := Lib.hid (outR_step (s := s) (i := i) htk)
          obtain ⟨X, hX⟩ : ∃ X, X = wr.alloc (bxA x) := ⟨_, rfl⟩
          obtain ⟨gb, hgb⟩ : ∃ gb, gb = wr.heap.size := ⟨_, rfl⟩
          have hbX : Below wr.heap.size wr X := by rw [hX]; exact (Below.refl _ _).alloc (Nat.le_refl _) _
          have HXB : Hid (X.heap[gb]? = some (bxA x)) := Lib.hid (by rw [hX, hgb]; exact heap_alloc_at _ _ _ rfl)
          have HRX := Lib.hid (HR.out.below hbX)
          have hln := HLN.out i k (by omega)
          have HIN := Lib.hid (fun z : Int => in_any z X HRX.out.1)
          have HPUT := Lib.hid (fun z : Int => rPut_any z X HRX.out.1 (by omega))
          have hln2 := HLN.out i (k + 1) (by omega)
          obtain ⟨x0, x1, x2, x3⟩ := x
          obtain ⟨zs, hzs⟩ : ∃ zs, zs = outR l s i k := ⟨_, rfl⟩
          rw [← hzs] at HIN HPUT hST HRX hln
          unfold bxA at hX
          simp only at c0 c1 c2 c3 hX
          clear hbX hbw htk hzs HR
          go_upto_region 8 with fail
          rw [← hX, ← hgb]
          clear hX hgb c0 c1 c2 c3 hg
          obtain ⟨d0, d1, d2, d3⟩ := cellsA HXB.out
          have hbl := heap_lt HXB.out
          have HI0 := Lib.hid (HIN.out x0)
          have HI1 := Lib.hid (HIN.out x1)
          by_cases h1 : x0 ∈ zs
          · rw [decide_eq_true h1] at HI0
            by_cases h2 : x1 ∈ zs
            · rw [decide_eq_true h2] at HI1
              have HN : Hid (RE w u (outR l s i (k + 1)) X) := Lib.hid (by rw [hST.out]; unfold stepA; rw [if_neg (fun hh => hh.2 h2)]; exact HRX.out)
              clear h1 h2 HIN HPUT
              go_wp2_with fail
              refine HI0.out.mono ?_
              rintro e w3 ⟨rfl, rfl⟩
              go_wp2_with fail
              refine HI1.out.mono ?_
              rintro e w3 ⟨rfl, rfl⟩
              go_wp2_with fail
              go_roundw
              case rel => exact ⟨k + 1, u, by go_num, rfl, by omega, HN⟩
              case measure => simp [intOf]; omega
            · rw [decide_eq_false h2] at HI1
              have HP1 := Lib.hid (HPUT.out x1)
              have HST : Hid (outR l s i (k + 1) = putF x1 zs) := Lib.hid (by rw [hST.out]; unfold stepA; rw [if_pos ⟨h1, h2⟩])
              rw [HST.out] at hln2
              clear h1 h2 HIN HPUT
              go_wp2_with fail
              refine HI0.out.mono ?_
              rintro e w3 ⟨rfl, rfl⟩
              go_wp2_with fail
              refine HI1.out.mono ?_
              rintro e w3 ⟨rfl, rfl⟩
              go_wp2_with fail
              refine HP1.out.mono ?_
              rintro e w4 ⟨u2, rfl, ho, hb⟩
              have HN : Hid (RE w u2 (outR l s i (k + 1)) w4) := Lib.hid (by rw [HST.out]; exact RE.new HRX.out.2.1 ho hb (by omega))
              clear ho hb HP1
              go_wp2_with fail
              go_roundw
              case rel => exact ⟨k + 1, u2, by go_num, rfl, by omega, HN⟩
              case measure => simp [intOf]; omega
          · rw [decide_eq_false h1] at HI0
            have HN : Hid (RE w u (outR l s i (k + 1)) X) := Lib.hid (by rw [hST.out]; unfold stepA; rw [if_neg (fun hh => h1 hh.1)]; exact HRX.out)
            clear h1 HIN HPUT
            go_wp2_with fail
            refine HI0.out.mono ?_
            rintro e w3 ⟨rfl, rfl⟩
            go_wp2_with fail
            go_roundw
            case rel => exact ⟨k + 1, u, by go_num, rfl, by omega, HN⟩
            case measure => simp [intOf]; omega
        · have hke : k = M := by omega
          subst hke
          have HN : Hid (RE w u (outR l s (i + 1) 0) wr) := Lib.hid (by rw [← HPS.out]; exact HR.out)
          clear HR HC
          go_wp2_with fail
          go_roundw
          case rel => exact ⟨i + 1, u, by go_num, rfl, by omega, HN⟩
          case measure => simp [intOf]; omega
    · have e : i = M + 1 := by omega
      subst e
      clear HC
      go_wp2
      go_ret
      exact ⟨u, rfl, HR.out.2.2, HR.out.2.1⟩
end Go.Proofs.YtakgepdlninnhaaDoor.Sc
namespace Go.Proofs.YtakgepdlninnhaaDoor.Sc
open Go.ChangeShapes Go.WideShapes Go.ChangeAt Go.RowKit Base F Bits Gr Rf
theorem sl_info : (Tryd.prog.info? 30).map (fun i => (i.zero, i.size, i.bytes)) = some (some (.slice none 0 0), 1, 24) := by kernel_rfl
/-- A slice is put behind a slice of slices of the call's own. -/
theorem append_sl {ops : Array Oper} {rest : List Oper} {o : Oper} {a : Act} {Q : Exit → Act → World → Prop} (hgd : o.guard = none) (s x : Operand)
    (ho : o.op = .call { callee := .builtin .append, args := #[s, x], argTypes := #[28, 28] }) {B g : Nat} {w : World} {v u : Value} {vs : List Value} {p : Option Addr} {n c : Nat}
    (hB : B ≤ w.heap.size) (hown : w.ownsRow B 30 1 v vs.length vs) (hs : a.eval s = v) (hy : w.heap[g]? = some (.cells #[.slice p n c] 30)) (hu : u = .slice (some ⟨g, 0, none⟩) 1 1) (hx : a.eval x = u) (hl : vs.length ≤ 100000)
    (h : ∀ v' w', w'.ownsRow B 30 1 v' (vs ++ [Value.slice p n c]).length (vs ++ [Value.slice p n c]) → w.grownBy w' v.ownBlock → wpList Tryd.prog ops Q rest (a.put o.dst v') w') :
    wpList Tryd.prog ops Q (o :: rest) a w := by
  refine wpList_plain hgd fun K hK => ?_
  obtain ⟨i0, hi, hz0, hz1, hz2⟩ := info_parts sl_info
  subst hu
  obtain ⟨v', w', hr, h2, h3, _, h5⟩ := run_append_own_at (P := Tryd.prog) w B 28 o.type 30 i0 (.slice none 0 0) 1 24 Tryd.underlying28 hi hz0 hz1 hz2 rfl (by decide) v vs.length vs hown ⟨g, 0, none⟩ 1 1 [.slice p n c] (by simp) (by
    intro t y hy2
    match t, hy2 with
    | 0, hy2 =>
      simp at hy2
      subst hy2
      simp [Addr.add, World.cell?, hy]) (by
    intro y hy2
    simp at hy2
    subst hy2
    rfl) (by simp only [maxLen]; omega) (by omega) hB
  unfold Oper.wp execOp
  simp only [ho, resolve, invoke, builtin, Sem.run_bind, Sem.run_pure, Result.andThen_ok, List.map_toArray, List.map_cons, List.map_nil, hs, hx, hr]
  refine hK _ _ (h v' w' ?_ h3)
  rw [List.length_append]
  exact h2
/-- Lists told one by one, and the slice that holds them. -/
structure AL (B : Nat) (w0 w : World) (v : Value) (vs : List Value) (ls : List (List Int)) : Prop where
  own : w.ownsRow B 30 1 v vs.length vs
  below : Below B w0 w
  size : B ≤ w.heap.size
  len : vs.length = ls.length
  each : ∀ i, i < ls.length → Lst.OwnI B w (vs.getD i undef) (ls.getD i [])
section
variable {B : Nat} {w0 w w' : World} {v : Value} {vs : List Value} {ls : List (List Int)}
theorem AL.below_ (h : AL B w0 w v vs ls) (hb : Below w.heap.size w w') : AL B w0 w' v vs ls := by
  refine ⟨⟨h.own.1, ?_⟩, h.below.trans (hb.mono h.size), Nat.le_trans h.size hb.size, h.len, fun i hi => (h.each i hi).below hb⟩
  rcases h.own.2 with hn | ⟨g, cap, cur, h1, h2, h3, h4⟩
  · exact .inl hn
  · exact .inr ⟨g, cap, cur, h1, h2, (hb.block g (heap_lt h3)).trans h3, h4⟩
theorem AL.app (h : AL B w0 w v vs ls) {v' u : Value} {z : List Int} {lit : Obj} (hz : Lst.OwnI B w u z) (ho : w'.ownsRow B 30 1 v' (vs ++ [u]).length (vs ++ [u])) (hg : (w.alloc lit).grownBy w' v.ownBlock) : AL B w0 w' v' (vs ++ [u]) (ls ++ [z]) := by
  have hb : Below w.heap.size w (w.alloc lit) := (Below.refl _ _).alloc (Nat.le_refl _) _
  have hblk : ∀ g, g < w.heap.size → v.ownBlock ≠ some g → w'.heap[g]? = w.heap[g]? := fun g hg1 hn => (hg.block g (Nat.lt_of_lt_of_le hg1 hb.size) (fun e => hn e.symm)).trans (hb.block g hg1)
  have hsz : w.heap.size ≤ w'.heap.size := Nat.le_trans hb.size hg.size
  have keep : ∀ (u : Value) (zs : List Int), Lst.OwnI B w u zs → Lst.OwnI B w' u zs := fun u zs hu => ownI_same hu fun g hg1 => by
    have hlt := World.ownsRow.lt hu g hg1
    refine hblk g hlt.2 fun e => ?_
    rcases hu.2 with ⟨hv, _⟩ | ⟨g', cap, cur, hv, _, h3, _⟩
    · rw [hv] at hg1; cases hg1
    · rw [hv] at hg1
      have e2 : g' = g := Option.some.inj hg1
      subst e2
      exact own_ne h.own h3 (by decide) e
  refine ⟨ho, ⟨hg.os.trans (hb.os.trans h.below.os), hg.tape.trans (hb.tape.trans h.below.tape), hg.output.trans (hb.output.trans h.below.output), Nat.le_trans h.below.size hsz, fun g hg1 => (hblk g (Nat.lt_of_lt_of_le hg1 h.size) (fun e => by have := (World.ownsRow.lt h.own g e).1; omega)).trans (h.below.block g hg1)⟩, Nat.le_trans h.size hsz, by rw [List.length_append, List.length_append, h.len]; rfl, fun i hi => ?_⟩
  by_cases e : i < ls.length
  · have e1 : (vs ++ [u]).getD i undef = vs.getD i undef := by
      rw [List.getD_eq_getElem?_getD, List.getD_eq_getElem?_getD, List.getElem?_append_left (by rw [h.len]; exact e)]
    have e2 : (ls ++ [z]).getD i [] = ls.getD i [] := by
      rw [List.getD_eq_getElem?_getD, List.getD_eq_getElem?_getD, List.getElem?_append_left e]
    rw [e1, e2]
    exact keep _ _ (h.each i e)
  · have hie : i = ls.length := by rw [List.length_append] at hi; simp at hi; omega
    subst hie
    have e1 : (vs ++ [u]).getD ls.length undef = u := by
      rw [List.getD_eq_getElem?_getD, ← h.len]
      simp
    have e2 : (ls ++ [z]).getD ls.length [] = z := by
      rw [List.getD_eq_getElem?_getD]
      simp
    rw [e1, e2]
    exact keep _ _ hz
theorem AL.start (w : World) : AL w.heap.size w w (.slice none 0 0) [] [] := ⟨World.ownsRow_nil _ _ _ _, Below.refl _ _, Nat.le_refl _, rfl, fun _ hi => absurd hi (Nat.not_lt_zero _)⟩
/-- One of the lists, to be read in any later world. -/
theorem AL.get (h : AL B w0 w v vs ls) {i : Nat} (hi : i < ls.length) (hl : (ls.getD i []).length ≤ 100000) : ∃ g c p n c', v = .slice (some ⟨g, 0, none⟩) ls.length c ∧ ∀ W, Below w.heap.size w W → W.cell? ⟨g, i, none⟩ = some (.slice p n c') ∧ Lst.Ints 0 W (.slice p n c') (ls.getD i []) := by
  have ho := h.each i hi
  rcases h.own.2 with ⟨_, h0⟩ | ⟨g, cap, cur, hv, _, hg, _, _, _, htk⟩
  · rw [h.len] at h0; omega
  · rw [h.len] at hv
    have hc : cur[i]? = some (vs.getD i undef) := by
      have : (cur.toList.take (vs.length * 1))[i]? = vs[i]? := by rw [htk]
      rw [List.getElem?_take, if_pos (by rw [h.len]; omega), Array.getElem?_toList] at this
      rw [this, List.getD_eq_getElem?_getD]
      rw [List.getElem?_eq_getElem (by rw [h.len]; exact hi)]
      rfl
    obtain ⟨p, n, c', hu⟩ : ∃ p n c', vs.getD i undef = .slice p n c' := by
      rcases ho.form with ⟨_, hv⟩ | ⟨g, cap, hv, _⟩
      · exact ⟨_, _, _, hv⟩
      · exact ⟨_, _, _, hv⟩
    rw [hu] at hc ho
    refine ⟨g, cap, p, n, c', hv, fun W hW => ⟨?_, (ho.ints (by omega)).below hW⟩⟩
    refine (hW.cell (p := ⟨g, i, none⟩) (heap_lt hg)).trans ?_
    simp only [World.cell?, hg]
    exact hc
end
end Go.Proofs.YtakgepdlninnhaaDoor.Sc
