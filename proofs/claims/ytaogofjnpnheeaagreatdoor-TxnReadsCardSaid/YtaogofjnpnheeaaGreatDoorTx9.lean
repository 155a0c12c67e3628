/-
  Contract of txn's Text. Not a statement of the seat.
-/
import Derived.Test.YtaogofjnpnheeaaGreatDoorTx8
import Derived.Test.YtaogofjnpnheeaaGreatDoorShelf
import Derived.Test.YtaogofjnpnheeaaGreatDoorTxtAp
import Derived.Test.YtaogofjnpnheeaaGreatDoorOp2
namespace Go.Proofs.YtaogofjnpnheeaaGreatDoor.Tx
open Go.ChangeShapes Go.WideShapes Go.ChangeAt Go.RowKit Base F Lst Nu Go.Lib
open Go.Proofs.YtaogofjnpnheeaaGreatDoor.Op (textO)
def bts (l : List UInt8) : ByteArray := ⟨l.toArray⟩
theorem bts_data (l : List UInt8) : (bts l).data.toList = l := by simp [bts]
theorem bts_map (zs : List (List UInt8)) : (zs.map bts).map (fun b => b.data.toList) = zs := by
  rw [List.map_map]
  have : ((fun b : ByteArray => b.data.toList) ∘ bts) = id := funext bts_data
  rw [this, List.map_id]
theorem ownT_two {B : Nat} {W : World} {g : Nat} (x y : ByteArray) (hB : B ≤ g) (h : W.heap[g]? = some (.cells #[.string x, .string y] 9)) : OwnT B W (.slice (some ⟨g, 0, none⟩) 2 2) [x, y] :=
  ⟨rfl, .inr ⟨g, 2, #[.string x, .string y], rfl, hB, h, Nat.le_refl _, by simp [maxLen], rfl, rfl⟩⟩
theorem join_own {B : Nat} {W : World} {v : Value} {zs : List ByteArray} (h : OwnT B W v zs) (h0 : zs ≠ []) (hl : zs.length ≤ 1000000) (hlen : (Lib.join (zs.map (·.data.toList)) [32]).length ≤ 140737488355328) :
    Calls Tryz.prog 23 #[v, .string ⟨#[32]⟩] W fun e w' => e = .returned (.string ⟨(Lib.join (zs.map (·.data.toList)) [32]).toArray⟩) ∧ Below W.heap.size W w' := by
  rcases h.form with ⟨hz, _⟩ | ⟨g, cap, rfl, hB, hg, hc⟩
  · exact absurd hz h0
  · refine Tryz.strings_Join g 0 cap zs ⟨#[32]⟩ W (fun j x hx => ?_) hg (by omega) hc hlen
    have hj := (List.getElem?_eq_some_iff.1 hx).1
    rcases h.ints (by omega) with ⟨⟨p, c, hv⟩, hz⟩ | ⟨g', o', c', hv, _, _, _, h4⟩
    · exact absurd hz h0
    · injection hv with e1 e2 e3
      injection e1 with e1
      injection e1 with e1 e4
      subst e1 e4
      rw [h4 j hj, List.getD_eq_getElem?_getD, hx]
      rfl
theorem textO_len (x : Opr) (h : Opr.ok x) : (textO x).length ≤ 63 := by
  obtain ⟨r, k, t, n⟩ := x
  obtain ⟨h1, h2, h3⟩ := h
  dsimp only at h1 h2 h3
  have a1 := itoa_len h1.1 h1.2
  have a2 := itoa_len h2.1 h2.2
  have a3 := itoa_len h3.1 h3.2
  cases hR : Op.rightO ⟨r, k, t, n⟩ with
  | false => have : textO ⟨r, k, t, n⟩ = [] := by unfold textO; rw [hR]; rfl
             rw [this]; simp
  | true =>
    cases r with
    | false =>
      have : textO ⟨false, k, t, n⟩ = 119 :: itoa k := by unfold textO; rw [hR]; rfl
      rw [this]; simp only [List.length_cons]; omega
    | true =>
      have : textO ⟨true, k, t, n⟩ = if t = 0 then 114 :: (itoa k ++ 64 :: itoa t) else 114 :: (itoa k ++ 64 :: (itoa t ++ 46 :: itoa n)) := by unfold textO; rw [hR]; rfl
      rw [this]; split <;> simp only [List.length_cons, List.length_append] <;> omega
theorem text_len (id : Int) (d : Bool) (l : List Opr) (hi : -9223372036854775808 ≤ id ∧ id ≤ 9223372036854775807) (hok : ∀ x ∈ l, Opr.ok x) (hl : l.length ≤ 100000) : (textT id d l).length ≤ 10000000 := by
  have a1 := itoa_len hi.1 hi.2
  have : ∀ l : List Opr, (∀ x ∈ l, Opr.ok x) → (l.flatMap fun o => 32 :: textO o).length ≤ 64 * l.length := by
    intro l
    induction l with
    | nil => intro _; simp
    | cons x l ih =>
      intro h
      have h1 := ih fun y hy => h y (List.mem_cons_of_mem _ hy)
      have h2 := textO_len x (h x List.mem_cons_self)
      simp only [List.flatMap_cons, List.length_append, List.length_cons]
      omega
  have h2 := this l hok
  unfold textT
  have h3 : (endB d).length = 1 := by unfold endB; split <;> rfl
  simp only [List.length_append, List.length_cons]
  omega
/-- On the way: the words. -/
def WD (w wr : World) (v : Value) (zs : List (List UInt8)) : Prop := OwnT w.heap.size wr v (zs.map bts) ∧ Aft w wr
theorem WD.aft {w wr W : World} {v : Value} {zs : List (List UInt8)} (h : WD w wr v zs) (ha : Aft wr W) : WD w W v zs := ⟨h.1.below ha, h.2.trans ha⟩
theorem WD.app {w wr w' : World} {v v' : Value} {zs : List (List UInt8)} {z : List UInt8} (h : WD w wr v zs) (ho : OwnT w.heap.size w' v' (zs.map bts ++ [bts z])) (hg : wr.grownBy w' v.ownBlock) : WD w w' v' (zs ++ [z]) :=
  ⟨by rw [List.map_append]; exact ho, appT_below h.2 h.1 hg⟩
set_option maxRecDepth 100000 in
set_option maxHeartbeats 4000000 in
theorem text_any {base : Nat} {s : Value} {l : List Opr} (id : Int) (d : Bool) (w : World) (hp : Pow w) (h : Oprs base w s l) (hi : -9223372036854775808 ≤ id ∧ id ≤ 9223372036854775807) (hok : ∀ x ∈ l, Opr.ok x) (hl : l.length ≤ 100000) : Calls Tryz.prog 6 #[.agg #[.int .i64 id, .bool d, s]] w (TextPost (textT id d l) w) := by
  obtain ⟨p, c, rfl, _, hc⟩ := h.open_
  have HC := Lib.hid hc
  have HOK : Hid (∀ k, k < l.length → Opr.ok (l.getD k Opr.zero)) := Lib.hid fun k hk => hok _ (by rw [List.getD_eq_getElem?_getD, List.getElem?_eq_getElem hk]; simp)
  have HTI : Hid (∀ o, Calls Tryz.prog 21 #[.int .i64 id] (w.alloc o) fun e w' => e = .returned (.string (bts (itoa id))) ∧ Aft (w.alloc o) w') := Lib.hid fun o => Nu.text_any id hi.1 hi.2 (w.alloc o) (hp.below (Aft.one o))
  have HTO : Hid (∀ (x : Opr) (W : World), Opr.ok x → Aft w W → Calls Tryz.prog 22 #[.agg #[.bool x.rd, .int .i64 x.k, .int .i64 x.t, .int .i64 x.n]] W fun e w' => e = .returned (.string (bts (textO x))) ∧ Aft W w') := Lib.hid fun x W hx hW => Op.text2_any x hx W (hp.below hW)
  have HJ : Hid (∀ (W : World) (v : Value), WD w W v (itoa id :: endB d :: l.map textO) → Calls Tryz.prog 23 #[v, .string ⟨#[32]⟩] W fun e w' => TextPost (textT id d l) w e w') := Lib.hid fun W v hW => by
    have e1 : Lib.join (((itoa id :: endB d :: l.map textO).map bts).map (·.data.toList)) [32] = textT id d l := by
      rw [bts_map]; exact join_words id d l
    have := join_own hW.1 (by simp) (by simp; omega) (by rw [e1]; have := text_len id d l hi hok hl; omega)
    rw [e1] at this
    exact this.mono fun e w' ⟨h1, h2⟩ => ⟨h1, hW.2.trans h2⟩
  have HE : Hid (∀ e w', TextPost (textT id d l) w e w' → ∃ b, e = .returned (.string b) ∧ TextPost (textT id d l) w (.returned (.string b)) w') := Lib.hid fun e w' h => ⟨_, h.1, by rw [← h.1]; exact h⟩
  have HPW := Lib.hid hp
  clear h hc hp hok hi
  generalize TextPost (textT id d l) w = Post at HE HJ ⊢
  have HSt : Hid (∀ W, Aft w W → WD w (W.alloc (.cells #[.string (bts (itoa id)), .string (bts (endB d))] 9)) (.slice (some ⟨W.heap.size, 0, none⟩) 2 2) (itoa id :: endB d :: ([] : List Opr).map textO)) := Lib.hid fun W hW => ⟨ownT_two _ _ hW.size (heap_alloc_at _ _ _ rfl), hW.lay _⟩
  generalize bts (itoa id) = b1 at HTI HSt
  cases d with
  | false =>
    have HSt : Hid (∀ W, Aft w W → WD w (W.alloc (.cells #[.string b1, .string ⟨#[97]⟩] 9)) (.slice (some ⟨W.heap.size, 0, none⟩) 2 2) (itoa id :: endB false :: ([] : List Opr).map textO)) := Lib.hid HSt.out
    go_enter Tryz.func6, Tryz.ntmps6
    go_wp2_with (go_at_call 21; refine (HTI.out _).mono ?_; rintro e w1 ⟨rfl, h1⟩; obtain ⟨hb0, ⟨x0, x1, x2⟩, _⟩ := cellsT (id := id) (d := false) (s := .slice p l.length c) ((h1.block w.heap.size (by simp)).trans (heap_alloc_at _ _ _ rfl)); have HX := Lib.hid (HSt.out _ ((Aft.one _).trans h1)); clear h1)
    go_loopw [4, 17] (fun s4 s17 wr => ∃ (k : Nat) (v : Value), s17 = .int .i64 k ∧ v = s4 ∧ k ≤ l.length ∧ Hid (WD w wr v (itoa id :: endB false :: (l.take k).map textO))) (fun _ s17 _ => l.length - (intOf s17).toNat)
    case atStart => exact ⟨0, _, rfl, rfl, Nat.zero_le _, HX⟩
    case round =>
      obtain ⟨k, v, rfl, hv, hk, HW⟩ := hrel
      subst hv
      by_cases hlt : k < l.length
      · obtain ⟨g', o', rfl, _, hg', c0, c1, c2, c3⟩ := HC.out k hlt
        have d0 := HW.out.2.cell hg' c0
        have d1 := HW.out.2.cell hg' c1
        have d2 := HW.out.2.cell hg' c2
        have d3 := HW.out.2.cell hg' c3
        have hxo := HOK.out k hlt
        have HS : Hid ((itoa id :: endB false :: (l.take (k + 1)).map textO) = (itoa id :: endB false :: (l.take k).map textO) ++ [textO (l.getD k Opr.zero)]) := Lib.hid (by rw [take_snoc l Opr.zero k hlt, List.map_append]; rfl)
        have HLN : Hid ((itoa id :: endB false :: (l.take k).map textO).length ≤ k + 2) := Lib.hid (by simp; omega)
        clear c0 c1 c2 c3
        generalize l.getD k Opr.zero = x at d0 d1 d2 d3 HS hxo
        have HTX := Lib.hid fun W hW => HTO.out x W hxo hW
        generalize (itoa id :: endB false :: (l.take k).map textO) = zs at HW HS HLN
        have HW2 : Hid (∀ W, Aft (wr.alloc (boxO x)) W → WD w W v zs) := Lib.hid fun W hW => HW.out.aft ((Aft.one _).trans hW)
        have HTX2 : Hid (∀ o, Calls Tryz.prog 22 #[.agg #[.bool x.rd, .int .i64 x.k, .int .i64 x.t, .int .i64 x.n]] (wr.alloc o) fun e w' => e = .returned (.string (bts (textO x))) ∧ Aft (wr.alloc o) w') := Lib.hid fun o => Op.text2_any x hxo (wr.alloc o) (HPW.out.below (HW.out.2.lay o))
        obtain ⟨b2, hb2⟩ : ∃ b2, b2 = bts (textO x) := ⟨_, rfl⟩
        have HB2 := Lib.hid hb2
        rw [← hb2] at HTX2
        clear hb2 hxo HTX
        go_wp2_with (first
          | (go_at_call 22; refine (HTX2.out _).mono ?_; rintro e w2 ⟨rfl, h2⟩; have H2 := Lib.hid (HW2.out _ h2); clear h2)
          | (at_builtin; refine append_txts rfl (.tmp 21) (.tmp 24) rfl (Nat.le_trans H2.out.2.size (by simp)) (H2.out.1.lay rfl _) rfl (txt_at b2 (heap_alloc_at _ _ _ (by simp))) (fun n c e => by cases e) rfl (by have := HLN.out; simp only [List.length_map, List.length_cons, List.length_nil]; omega) ?_; intro v5 w5 h5 hg5 _; have H5 : Hid (WD w w5 v5 (zs ++ [textO x])) := Lib.hid ((H2.out.aft (Aft.one _)).app (by rw [← HB2.out]; exact h5) hg5); clear h5 hg5))
        go_roundw
        case rel => exact ⟨k + 1, _, by go_num, rfl, by omega, by rw [HS.out]; exact H5⟩
        case measure => simp [intOf]; omega
      · have HF : Hid (WD w wr v (itoa id :: endB false :: l.map textO)) := Lib.hid (by have := HW.out; rwa [List.take_of_length_le (by omega)] at this)
        clear HW
        go_wp2_with (go_at_call 23; refine (HJ.out _ _ HF.out).mono ?_; rintro e w5 h5; obtain ⟨b5, rfl, h6⟩ := HE.out _ _ h5; have H6 := Lib.hid h6; clear h5 h6)
        exact H6.out
  | true =>
    have HSt : Hid (∀ W, Aft w W → WD w (W.alloc (.cells #[.string b1, .string ⟨#[99]⟩] 9)) (.slice (some ⟨W.heap.size, 0, none⟩) 2 2) (itoa id :: endB true :: ([] : List Opr).map textO)) := Lib.hid HSt.out
    go_enter Tryz.func6, Tryz.ntmps6
    go_wp2_with (go_at_call 21; refine (HTI.out _).mono ?_; rintro e w1 ⟨rfl, h1⟩; obtain ⟨hb0, ⟨x0, x1, x2⟩, _⟩ := cellsT (id := id) (d := true) (s := .slice p l.length c) ((h1.block w.heap.size (by simp)).trans (heap_alloc_at _ _ _ rfl)); have HX := Lib.hid (HSt.out _ ((Aft.one _).trans h1)); clear h1)
    go_loopw [4, 17] (fun s4 s17 wr => ∃ (k : Nat) (v : Value), s17 = .int .i64 k ∧ v = s4 ∧ k ≤ l.length ∧ Hid (WD w wr v (itoa id :: endB true :: (l.take k).map textO))) (fun _ s17 _ => l.length - (intOf s17).toNat)
    case atStart => exact ⟨0, _, rfl, rfl, Nat.zero_le _, HX⟩
    case round =>
      obtain ⟨k, v, rfl, hv, hk, HW⟩ := hrel
      subst hv
      by_cases hlt : k < l.length
      · obtain ⟨g', o', rfl, _, hg', c0, c1, c2, c3⟩ := HC.out k hlt
        have d0 := HW.out.2.cell hg' c0
        have d1 := HW.out.2.cell hg' c1
        have d2 := HW.out.2.cell hg' c2
        have d3 := HW.out.2.cell hg' c3
        have hxo := HOK.out k hlt
        have HS : Hid ((itoa id :: endB true :: (l.take (k + 1)).map textO) = (itoa id :: endB true :: (l.take k).map textO) ++ [textO (l.getD k Opr.zero)]) := Lib.hid (by rw [take_snoc l Opr.zero k hlt, List.map_append]; rfl)
        have HLN : Hid ((itoa id :: endB true :: (l.take k).map textO).length ≤ k + 2) := Lib.hid (by simp; omega)
        clear c0 c1 c2 c3
        generalize l.getD k Opr.zero = x at d0 d1 d2 d3 HS hxo
        have HTX := Lib.hid fun W hW => HTO.out x W hxo hW
        generalize (itoa id :: endB true :: (l.take k).map textO) = zs at HW HS HLN
        have HW2 : Hid (∀ W, Aft (wr.alloc (boxO x)) W → WD w W v zs) := Lib.hid fun W hW => HW.out.aft ((Aft.one _).trans hW)
        have HTX2 : Hid (∀ o, Calls Tryz.prog 22 #[.agg #[.bool x.rd, .int .i64 x.k, .int .i64 x.t, .int .i64 x.n]] (wr.alloc o) fun e w' => e = .returned (.string (bts (textO x))) ∧ Aft (wr.alloc o) w') := Lib.hid fun o => Op.text2_any x hxo (wr.alloc o) (HPW.out.below (HW.out.2.lay o))
        obtain ⟨b2, hb2⟩ : ∃ b2, b2 = bts (textO x) := ⟨_, rfl⟩
        have HB2 := Lib.hid hb2
        rw [← hb2] at HTX2
        clear hb2 hxo HTX
        go_wp2_with (first
          | (go_at_call 22; refine (HTX2.out _).mono ?_; rintro e w2 ⟨rfl, h2⟩; have H2 := Lib.hid (HW2.out _ h2); clear h2)
          | (at_builtin; refine append_txts rfl (.tmp 21) (.tmp 24) rfl (Nat.le_trans H2.out.2.size (by simp)) (H2.out.1.lay rfl _) rfl (txt_at b2 (heap_alloc_at _ _ _ (by simp))) (fun n c e => by cases e) rfl (by have := HLN.out; simp only [List.length_map, List.length_cons, List.length_nil]; omega) ?_; intro v5 w5 h5 hg5 _; have H5 : Hid (WD w w5 v5 (zs ++ [textO x])) := Lib.hid ((H2.out.aft (Aft.one _)).app (by rw [← HB2.out]; exact h5) hg5); clear h5 hg5))
        go_roundw
        case rel => exact ⟨k + 1, _, by go_num, rfl, by omega, by rw [HS.out]; exact H5⟩
        case measure => simp [intOf]; omega
      · have HF : Hid (WD w wr v (itoa id :: endB true :: l.map textO)) := Lib.hid (by have := HW.out; rwa [List.take_of_length_le (by omega)] at this)
        clear HW
        go_wp2_with (go_at_call 23; refine (HJ.out _ _ HF.out).mono ?_; rintro e w5 h5; obtain ⟨b5, rfl, h6⟩ := HE.out _ _ h5; have H6 := Lib.hid h6; clear h5 h6)
        exact H6.out
end Go.Proofs.YtaogofjnpnheeaaGreatDoor.Tx
