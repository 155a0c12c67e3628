/-
  Contract of txn's Needs. Not a statement of the seat.
-/
import Derived.Test.YtaogofjnpnheeaaGreatDoorTx6
import Derived.Test.YtaogofjnpnheeaaGreatDoorHead
namespace Go.Proofs.YtaogofjnpnheeaaGreatDoor.Tx
open Go.ChangeShapes Go.WideShapes Go.ChangeAt Go.RowKit Base F Lst
def gV (p : Ver) : Value := .agg #[.int .i64 p.t, .int .i64 p.k, .int .i64 p.n]
theorem gV_inj {p q : Ver} (h : gV p = gV q) : p = q := by
  obtain ⟨a, b, c⟩ := p
  obtain ⟨a', b', c'⟩ := q
  simp [gV] at h
  rw [h.1, h.2.1, h.2.2]
def boxV (p : Ver) : Obj := .cells #[.int .i64 p.t, .int .i64 p.k, .int .i64 p.n] 42
theorem inV_snoc (acc : List Ver) (v x : Ver) : inV (acc ++ [v]) x = (inV acc x || Ver.beq v x) := by unfold inV; rw [List.any_append]; simp
theorem cellsV {w W : World} {p : Ver} (h : W.heap[w.heap.size]? = (w.alloc (boxV p)).heap[w.heap.size]?) : W.cell? ⟨w.heap.size, 0, none⟩ = some (.int .i64 p.t) ∧ W.cell? ⟨w.heap.size, 1, none⟩ = some (.int .i64 p.k) ∧ W.cell? ⟨w.heap.size, 2, none⟩ = some (.int .i64 p.n) := by
  rw [heap_alloc_at _ _ _ rfl] at h
  unfold boxV at h
  simp [World.cell?, h]
/-- On the way: the transaction's box, what was met, the versions. -/
def NI (w wr : World) (id : Int) (d : Bool) (s : Value) (n : Nat) (acc : List Ver) (v : Value) : Prop :=
  wr.heap[w.heap.size]? = some (boxT id d s) ∧ Mp.MB Tryz.prog 42 4 gV wr (w.heap.size + 1) n (inV acc) ∧ OwnVer (w.heap.size + 2) wr v acc ∧ Aft w wr
theorem NI.aft {w wr W : World} {id : Int} {d : Bool} {s v : Value} {n : Nat} {acc : List Ver} (h : NI w wr id d s n acc v) (ha : Aft wr W) : NI w W id d s n acc v :=
  ⟨(ha.block _ (heap_lt h.1)).trans h.1, h.2.1.below ha, h.2.2.1.below ha, h.2.2.2.trans ha⟩
theorem NI.lay {w wr : World} {id : Int} {d : Bool} {s v : Value} {n : Nat} {acc : List Ver} (h : NI w wr id d s n acc v) (o : Obj) : NI w (wr.alloc o) id d s n acc v := h.aft (Aft.one o)
/-- One is put into the map, then into the list. -/
def NM (w wr : World) (id : Int) (d : Bool) (s : Value) (n : Nat) (acc acc' : List Ver) (v : Value) : Prop :=
  wr.heap[w.heap.size]? = some (boxT id d s) ∧ Mp.MB Tryz.prog 42 4 gV wr (w.heap.size + 1) n (inV acc') ∧ OwnVer (w.heap.size + 2) wr v acc ∧ Aft w wr
theorem NI.put {w wr w' : World} {id : Int} {d : Bool} {s v : Value} {n n' : Nat} {acc acc' : List Ver} (h : NI w wr id d s n acc v) (hm : Mp.MB Tryz.prog 42 4 gV w' (w.heap.size + 1) n' (inV acc')) (hg : wr.grownBy w' (some (w.heap.size + 1))) : NM w w' id d s n' acc acc' v :=
  ⟨(hg.block _ (heap_lt h.1) (fun e => by injection e with e; omega)).trans h.1, hm, h.2.2.1.kept hg (.inr fun e => by have := (h.2.2.1.base _ e).1; omega), Below.grown h.2.2.2 hg h.2.2.2.size (fun k hk => by injection hk with hk; omega)⟩
theorem NM.lay {w wr : World} {id : Int} {d : Bool} {s v : Value} {n : Nat} {acc acc' : List Ver} (h : NM w wr id d s n acc acc' v) (o : Obj) : NM w (wr.alloc o) id d s n acc acc' v :=
  ⟨heap_alloc_lt _ _ _ _ h.1, h.2.1.lay rfl o, h.2.2.1.lay rfl o, h.2.2.2.lay o⟩
theorem NM.app {w wr w' : World} {id : Int} {d : Bool} {s v v' : Value} {n : Nat} {acc acc' : List Ver} (h : NM w wr id d s n acc acc' v) (ho : OwnVer (w.heap.size + 2) w' v' acc') (hg : wr.grownBy w' v.ownBlock) : NI w w' id d s n acc' v' := by
  have hne : ∀ j, j ≤ w.heap.size + 1 → some j ≠ v.ownBlock := fun j hj e => by have := (h.2.2.1.base j e.symm).1; omega
  exact ⟨(hg.block _ (heap_lt h.1) (hne _ (by omega))).trans h.1, h.2.1.heap (hg.block _ h.2.1.lt (hne _ (by omega))), ho, Below.grown h.2.2.2 hg h.2.2.2.size (fun k hk => by have := (h.2.2.1.base k hk).1; omega)⟩
def VerNew (xs : List Ver) (w : World) (e : Ending) (w' : World) : Prop := ∃ v, e = .returned v ∧ OwnVer w.heap.size w' v xs ∧ Aft w w'
theorem ownVer_mono {B B' : Nat} {w : World} {v : Value} {zs : List Ver} (h : OwnVer B w v zs) (hb : B' ≤ B) : OwnVer B' w v zs := by
  refine ⟨h.1, ?_⟩
  rcases h.2 with hn | ⟨g, cap, cur, hv, hB, rest⟩
  · exact .inl hn
  · exact .inr ⟨g, cap, cur, hv, Nat.le_trans hb hB, rest⟩
set_option maxRecDepth 100000 in
set_option maxHeartbeats 4000000 in
theorem needs_any {base : Nat} {s : Value} {l : List Opr} (id : Int) (d : Bool) (w : World) (h : Oprs base w s l) (hok : ∀ x ∈ l, Opr.ok x) (hl : l.length ≤ 100000) : Calls Tryz.prog 14 #[.agg #[.int .i64 id, .bool d, s]] w (VerNew (needsL id l) w) := by
  obtain ⟨p, c, rfl, _, hc⟩ := h.open_
  have HC := Lib.hid hc
  have HOK : Hid (∀ k, k < l.length → Opr.ok (l.getD k Opr.zero)) := Lib.hid fun k hk => hok _ (by rw [List.getD_eq_getElem?_getD, List.getElem?_eq_getElem hk]; simp)
  have HE : Hid (∀ v w', OwnVer (w.heap.size + 2) w' v (needsL id l) → Aft w w' → VerNew (needsL id l) w (.returned v) w') := Lib.hid fun v w' h1 h2 => ⟨v, rfl, ownVer_mono h1 (by omega), h2⟩
  have hmm := @run_makeMap Tryz.prog
  clear h hc hok
  generalize VerNew (needsL id l) w = Post at HE ⊢
  go_enter Tryz.func14, Tryz.ntmps14
  go_wp2
  clear hmm
  go_loopw [3, 12] (fun s3 s12 wr => ∃ (k n : Nat) (acc : List Ver), s12 = .int .i64 k ∧ k ≤ l.length ∧ n ≤ k ∧ acc.length ≤ k ∧ Hid (NI w wr id d (.slice p l.length c) n acc s3) ∧ Hid (acc = needsL id (l.take k))) (fun _ s12 _ => l.length - (intOf s12).toNat)
  case atStart => exact ⟨0, 0, [], rfl, Nat.zero_le _, Nat.le_refl _, Nat.le_refl _, Lib.hid ⟨heap_alloc_lt _ _ _ _ (heap_alloc_at _ _ _ rfl), (Mp.MB.made (heap_alloc_at _ _ _ (by simp))).ext fun _ => rfl, OwnVer.nil _ _, (Aft.one _).lay _⟩, Lib.hid rfl⟩
  case round =>
    obtain ⟨k, n, acc, rfl, hk, hnk, hac, HN, HG⟩ := hrel
    by_cases hlt : k < l.length
    · obtain ⟨g', o', rfl, _, hg', c0, c1, c2, c3⟩ := HC.out k hlt
      have hxo := HOK.out k hlt
      have d0 := HN.out.2.2.2.cell hg' c0
      have d1 := HN.out.2.2.2.cell hg' c1
      have d2 := HN.out.2.2.2.cell hg' c2
      have d3 := HN.out.2.2.2.cell hg' c3
      have HS : Hid (needsL id (l.take (k + 1)) = needStep id acc (l.getD k Opr.zero)) := Lib.hid (by rw [take_snoc l Opr.zero k hlt, needs_snoc, HG.out])
      clear c0 c1 c2 c3 HG
      generalize l.getD k Opr.zero = x at d0 d1 d2 d3 HS hxo
      obtain ⟨xr, xk, xt, xn⟩ := x
      dsimp only at d0 d1 d2 d3
      obtain ⟨hok1, hok2, hok3⟩ := hxo
      dsimp only at hok1 hok2 hok3
      cases xr with
      | false =>
        have HF : Hid (acc = needsL id (l.take (k + 1))) := Lib.hid (by rw [HS.out]; rfl)
        clear HS
        go_wp2_with (go_at_call 27; refine (Op.of_w _ _ _ _).mono ?_; rintro e w2 ⟨rfl, h2⟩; have H2 := Lib.hid (fun o => ((HN.out.lay _).aft h2).lay o); clear h2)
        go_roundw
        case rel => exact ⟨k + 1, n, acc, by go_num, by omega, by omega, by omega, Lib.hid (H2.out _), HF⟩
        case measure => simp [intOf]; omega
      | true =>
        by_cases h0 : xt = 0
        · have HF : Hid (acc = needsL id (l.take (k + 1))) := Lib.hid (by rw [HS.out]; simp [needStep, need, h0])
          subst h0
          clear HS
          go_wp2_with (go_at_call 27; refine (Op.of_r _ _ _ _).mono ?_; rintro e w2 ⟨rfl, h2⟩; have H2 := Lib.hid (fun o => ((HN.out.lay _).aft h2).lay o); clear h2)
          go_roundw
          case rel => exact ⟨k + 1, n, acc, by go_num, by omega, by omega, by omega, Lib.hid (H2.out _), HF⟩
          case measure => simp [intOf]; omega
        · have e0 : (xt == 0) = false := by rw [beq_eq_false_iff_ne]; exact h0
          by_cases h1 : xt = id
          · have HF : Hid (acc = needsL id (l.take (k + 1))) := Lib.hid (by rw [HS.out]; simp [needStep, need, h1])
            subst h1
            clear HS
            go_wp2_with (go_at_call 27; refine (Op.of_r _ _ _ _).mono ?_; rintro e w2 ⟨rfl, h2⟩; have H2 := Lib.hid (fun o => ((HN.out.lay _).aft h2).lay o); obtain ⟨_, ⟨v0, _, _⟩, _⟩ := cellsT ((HN.out.lay _).aft h2).1; clear h2)
            go_roundw
            case rel => exact ⟨k + 1, n, acc, by go_num, by omega, by omega, by omega, Lib.hid (H2.out _), HF⟩
            case measure => simp [intOf]; omega
          · have e1 : (xt == id) = false := by rw [beq_eq_false_iff_ne]; exact h1
            obtain ⟨kl, hkl⟩ := Mp.key_v xt xk xn hok2 hok1 hok3
            have HKL := Lib.hid hkl
            clear hkl
            cases hin : inV acc ⟨xt, xk, xn⟩ with
            | true =>
              have HF : Hid (acc = needsL id (l.take (k + 1))) := Lib.hid (by rw [HS.out]; simp [needStep, need, verO, hin])
              have HL : Hid (∀ W o, Aft (wr.alloc (boxO ⟨true, xk, xt, xn⟩)) W → (Instr.lookup 61 (.map (some (w.heap.size + 1))) (.agg #[.int .i64 xt, .int .i64 xk, .int .i64 xn]) false).run Tryz.prog (W.alloc o) = .ok (.bool true) (W.alloc o)) := Lib.hid fun W o h2 => by
                have := (((HN.out.lay _).aft h2).lay o).2.1.look Mp.keyedV Tryz.underlying61 Tryz.underlying4 (zeroB _) ⟨xt, xk, xn⟩ HKL.out
                rwa [hin] at this
              clear HS hin
              go_wp2_with (go_at_call 27; refine (Op.of_r _ _ _ _).mono ?_; rintro e w2 ⟨rfl, h2⟩; have H2 := Lib.hid (fun o => ((HN.out.lay _).aft h2).lay o); obtain ⟨_, ⟨v0, _, _⟩, _⟩ := cellsT ((HN.out.lay _).aft h2).1; have hlook := HL.out _ (boxV ⟨xt, xk, xn⟩) h2; unfold boxV at hlook; clear h2)
              clear hlook
              go_roundw
              case rel => exact ⟨k + 1, n, acc, by go_num, by omega, by omega, by omega, Lib.hid (H2.out _), HF⟩
              case measure => simp [intOf]; omega
            | false =>
              have HF : Hid (acc ++ [(⟨xt, xk, xn⟩ : Ver)] = needsL id (l.take (k + 1))) := Lib.hid (by rw [HS.out]; simp [needStep, need, verO, hin, h0, h1])
              have HL : Hid (∀ W o, Aft (wr.alloc (boxO ⟨true, xk, xt, xn⟩)) W → (Instr.lookup 61 (.map (some (w.heap.size + 1))) (.agg #[.int .i64 xt, .int .i64 xk, .int .i64 xn]) false).run Tryz.prog (W.alloc o) = .ok (.bool false) (W.alloc o)) := Lib.hid fun W o h2 => by
                have := (((HN.out.lay _).aft h2).lay o).2.1.look Mp.keyedV Tryz.underlying61 Tryz.underlying4 (zeroB _) ⟨xt, xk, xn⟩ HKL.out
                rwa [hin] at this
              have HSM : Hid (∀ z, gV z = gV ⟨xt, xk, xn⟩ → inV (acc ++ [(⟨xt, xk, xn⟩ : Ver)]) z = true) := Lib.hid fun z e => by rw [gV_inj e, inV_snoc, Ver.beq_self, Bool.or_true]
              have HOT : Hid (∀ z, gV z ≠ gV ⟨xt, xk, xn⟩ → inV (acc ++ [(⟨xt, xk, xn⟩ : Ver)]) z = inV acc z) := Lib.hid fun z e => by
                rw [inV_snoc]
                have : Ver.beq ⟨xt, xk, xn⟩ z = false := by
                  rw [Bool.eq_false_iff]
                  intro h
                  exact e (by rw [(Ver.beq_iff _ _).1 h])
                rw [this, Bool.or_false]
              have hmx : n < maxLen := by simp only [maxLen]; omega
              clear HS hin
              go_wp2_with (first
                | (go_at_call 27; refine (Op.of_r _ _ _ _).mono ?_; rintro e w2 ⟨rfl, h2⟩; have H2 := Lib.hid (fun o => ((HN.out.lay _).aft h2).lay o); obtain ⟨_, ⟨v0, _, _⟩, _⟩ := cellsT ((HN.out.lay _).aft h2).1; have hlook := HL.out _ (boxV ⟨xt, xk, xn⟩) h2; unfold boxV at hlook; have h2s : wr.heap.size + 1 ≤ w2.heap.size := (by have := Below.size h2; simpa using this); clear h2)
                | (at_mapUpdate; go_loud (refine Mp.wp_store Mp.keyedV Tryz.underlying61 Tryz.underlying4 rfl (.tmp 33) (.tmp 34) (.const (.bool true)) rfl (H2.out _).2.1 hmx rfl ⟨xt, xk, xn⟩ rfl HKL.out true rfl (inV (acc ++ [(⟨xt, xk, xn⟩ : Ver)])) HSM.out HOT.out ?_; intro w3 h3 hg3; have H3 := Lib.hid ((H2.out _).put h3 hg3); obtain ⟨y0, y1, y2⟩ : w3.cell? ⟨w2.heap.size, 0, none⟩ = some (.int .i64 xt) ∧ w3.cell? ⟨w2.heap.size, 1, none⟩ = some (.int .i64 xk) ∧ w3.cell? ⟨w2.heap.size, 2, none⟩ = some (.int .i64 xn) := cellsV (w := w2) (p := ⟨xt, xk, xn⟩) (hg3.block w2.heap.size (by simp) (fun e => by injection e with e; have := HN.out.2.1.lt; omega)) ; clear h3 hg3 hlook h2s))
                | (at_builtin; refine append_vers rfl (.tmp 35) (.tmp 37) rfl (by have := H3.out.2.2.2.size; have := H3.out.2.1.lt; simp; omega) (H3.out.lay _).2.2.1 rfl (ver_at ⟨xt, xk, xn⟩ (heap_alloc_at _ _ _ (by simp))) rfl (by simp only [List.length_cons, List.length_nil]; omega) ?_; intro v5 w5 h5 hg5 _; have H5 := Lib.hid ((H3.out.lay _).app h5 hg5); clear h5 hg5))
              go_roundw
              case rel => exact ⟨k + 1, n + 1, acc ++ [⟨xt, xk, xn⟩], by go_num, by omega, by omega, by simp; omega, H5, HF⟩
              case measure => simp [intOf]; omega
    · have HF : Hid (acc = needsL id l) := Lib.hid (by rw [HG.out, List.take_of_length_le (by omega)])
      have HN2 := Lib.hid HN.out.2.2.2
      have HO := Lib.hid HN.out.2.2.1
      clear HG HN
      go_wp2
      exact HE.out _ _ (by rw [← HF.out]; exact HO.out) HN2.out
end Go.Proofs.YtaogofjnpnheeaaGreatDoor.Tx
