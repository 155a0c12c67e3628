/-
  Contracts of the document's Same and Text of transactions. Not a statement of the seat.
-/
import Derived.Test.YtphagkpnfbdncaaDoorTxR1
namespace Go.Proofs.YtphagkpnfbdncaaDoor.Tx
open Go.ChangeShapes Go.WideShapes Go.ChangeAt Go.RowKit Base F Lst Nu Go.Lib
open Go.Proofs.YtphagkpnfbdncaaDoor.Op (textO)
set_option maxRecDepth 100000 in
set_option maxHeartbeats 1000000 in
theorem rsame_tx {b1 b2 : Nat} {s s2 : Value} {l l2 : List Opr} (id id2 : Int) (d d2 : Bool) (w : World) (h : Oprs b1 w s l) (h2 : Oprs b2 w s2 l2) : Calls Tryd.prog 22 #[.agg #[.int .i64 id, .bool d, s], .agg #[.int .i64 id2, .bool d2, s2]] w (BoolNew (sameT id id2 d d2 l l2) w) := by
  have HS : Hid (∀ W, Aft w W → Calls Tryd.prog 42 #[s, s2] W fun e w' => e = .returned (.bool (Op.sameO l l2)) ∧ Aft w w') := Lib.hid fun W hW => (Op.sameR_any W s s2 l l2 b1 b2 (h.below hW) (h2.below hW)).mono fun e w' ⟨h1, q, h2⟩ => ⟨h1, by rw [h2]; exact hW.drew q⟩
  obtain ⟨p, c, rfl, _⟩ := h.open_
  obtain ⟨p2, c2, rfl, _⟩ := h2.open_
  have HE : Hid (∀ b w', b = sameT id id2 d d2 l l2 → Aft w w' → BoolNew (sameT id id2 d d2 l l2) w (.returned (.bool b)) w') := Lib.hid fun b w' h1 h2 => ⟨by rw [h1], h2⟩
  have HT : Hid (sameT id id2 d d2 l l2 = ((id == id2) && (d == d2) && Op.sameO l l2)) := Lib.hid rfl
  have HA : Hid (∀ o1 o2, Aft w ((w.alloc o1).alloc o2)) := Lib.hid fun o1 o2 => (Aft.one o1).lay o2
  clear h h2
  generalize BoolNew (sameT id id2 d d2 l l2) w = Post at HE ⊢
  generalize sameT id id2 d d2 l l2 = r at HE HT
  generalize Op.sameO l l2 = q at HS HT
  generalize l.length = n at *
  generalize l2.length = n2 at *
  cases h1 : (id == id2) with
  | false =>
    have HR : Hid (false = r) := Lib.hid (by rw [HT.out, h1]; rfl)
    go_enter Tryd.func22, Tryd.ntmps22
    go_wp2
    exact HE.out _ _ HR.out (HA.out _ _)
  | true =>
    cases h2 : (d == d2) with
    | false =>
      have HR : Hid (false = r) := Lib.hid (by rw [HT.out, h1, h2]; rfl)
      go_enter Tryd.func22, Tryd.ntmps22
      go_wp2
      exact HE.out _ _ HR.out (HA.out _ _)
    | true =>
      have HR : Hid (q = r) := Lib.hid (by rw [HT.out, h1, h2]; rfl)
      go_enter Tryd.func22, Tryd.ntmps22
      go_wp2_with (go_at_call 42; refine (HS.out _ (HA.out _ _)).mono ?_; rintro e w2 ⟨rfl, h3⟩; have H3 := Lib.hid h3; clear h3)
      exact HE.out _ _ HR.out H3.out

theorem bts_app (x y : List UInt8) : bts (x ++ y) = bts x ++ bts y := by
  unfold bts
  apply ByteArray.ext
  simp
theorem bts_size (x : List UInt8) : (bts x).size = x.length := by show x.toArray.size = _; simp
/-- On the way: the text. -/
def RT (w wr : World) (b : ByteArray) (x : List UInt8) : Prop := b = bts x ∧ Aft w wr
set_option maxRecDepth 100000 in
set_option maxHeartbeats 4000000 in
theorem rtext_any {base : Nat} {s : Value} {l : List Opr} (id : Int) (d : Bool) (w : World) (h : Oprs base w s l) (hi : -9223372036854775808 ≤ id ∧ id ≤ 9223372036854775807) (hok : ∀ x ∈ l, Opr.ok x) (hl : l.length ≤ 100000) : Calls Tryd.prog 20 #[.agg #[.int .i64 id, .bool d, s]] w (TextPost (textT id d l) w) := by
  obtain ⟨p, c, rfl, _, hc⟩ := h.open_
  have HC := Lib.hid hc
  have HOK : Hid (∀ k, k < l.length → Opr.ok (l.getD k Opr.zero)) := Lib.hid fun k hk => hok _ (by rw [List.getD_eq_getElem?_getD, List.getElem?_eq_getElem hk]; simp)
  have HTI : Hid (∀ W : World, Calls Tryd.prog 39 #[.int .i64 id] W fun e w' => e = .returned (.string (bts (itoa id))) ∧ Aft W w') := Lib.hid fun W => Nu.textR_any id hi.1 hi.2 W
  have HE : Hid (∀ b w', b = bts (textT id d l) → Aft w w' → TextPost (textT id d l) w (.returned (.string b)) w') := Lib.hid fun b w' h1 h2 => ⟨by rw [h1]; rfl, h2⟩
  have HB1 : Hid (∀ y : UInt8, bts (itoa id) ++ ⟨#[32, y]⟩ = bts (itoa id ++ [32, y])) := Lib.hid fun y => (bts_app _ _).symm
  have hb1 : (bts (itoa id)).size ≤ 20 := by rw [bts_size]; exact itoa_len hi.1 hi.2
  clear h hc hok hi
  generalize TextPost (textT id d l) w = Post at HE ⊢
  obtain ⟨b1, hbb⟩ : ∃ b1, b1 = bts (itoa id) := ⟨_, rfl⟩
  rw [← hbb] at HTI HB1 hb1
  clear hbb
  have hb2 : b1.size + 2 ≤ 22 := by omega
  cases d with
  | false =>
    go_enter Tryd.func20, Tryd.ntmps20
    go_wp2_with fail
    refine (HTI.out _).mono ?_
    rintro e w1 ⟨rfl, h1⟩
    obtain ⟨hx0, ⟨x0, x1, x2⟩, _⟩ := cellsT (id := id) (d := false) (s := .slice p l.length c) ((h1.block w.heap.size (by simp)).trans (heap_alloc_at _ _ _ rfl))
    have HX1 := Lib.hid ((h1.block w.heap.size (by simp)).trans (heap_alloc_at _ (boxT id false (.slice p l.length c)) _ rfl))
    have H1 := Lib.hid ((Aft.one _).trans h1)
    clear h1
    go_wp2
    go_loopw [3, 19] (fun s3 s19 wr => ∃ (k : Nat) (b : ByteArray), s19 = .int .i64 k ∧ s3 = .string b ∧ k ≤ l.length ∧ b.size ≤ 22 + 64 * k ∧ Hid (RT w wr b (itoa id ++ 32 :: endB false ++ ((l.take k).flatMap fun o => 32 :: textO o)))) (fun _ s19 _ => l.length - (intOf s19).toNat)
    case atStart => exact ⟨0, _, rfl, rfl, Nat.zero_le _, by rw [ByteArray.size_append]; have : (⟨#[32, 97]⟩ : ByteArray).size = 2 := rfl; omega, Lib.hid ⟨by rw [HB1.out]; simp [endB], H1.out⟩⟩
    case round =>
      obtain ⟨k, b, rfl, rfl, hk, hbs, HW⟩ := hrel
      by_cases hlt : k < l.length
      · obtain ⟨g', o', rfl, _, hg', c0, c1, c2, c3⟩ := HC.out k hlt
        have d0 := HW.out.2.cell hg' c0
        have d1 := HW.out.2.cell hg' c1
        have d2 := HW.out.2.cell hg' c2
        have d3 := HW.out.2.cell hg' c3
        have hxo := HOK.out k hlt
        have HS : Hid (((l.take (k + 1)).flatMap fun o => 32 :: textO o) = ((l.take k).flatMap fun o => 32 :: textO o) ++ 32 :: textO (l.getD k Opr.zero)) := Lib.hid (by rw [take_snoc l Opr.zero k hlt, List.flatMap_append]; simp)
        clear c0 c1 c2 c3
        generalize l.getD k Opr.zero = x at d0 d1 d2 d3 HS hxo
        obtain ⟨b2, hb2'⟩ : ∃ b2, b2 = bts (textO x) := ⟨_, rfl⟩
        have hs2 : b2.size ≤ 63 := by rw [hb2', bts_size]; exact textO_len x hxo
        have hs3 : b2.size + 1 ≤ 64 := by omega
        have hs4 : b.size + (b2.size + 1) ≤ 22 + 64 * (k + 1) := by omega
        have hs5 : 22 + 64 * (k + 1) ≤ 7000000 := by omega
        have HTX : Hid (∀ W, Calls Tryd.prog 40 #[.agg #[.bool x.rd, .int .i64 x.k, .int .i64 x.t, .int .i64 x.n]] W fun e w' => e = .returned (.string b2) ∧ Aft W w') := Lib.hid fun W => by rw [hb2']; exact Op.text2R_any x hxo W
        have HN : Hid (∀ W, Aft (wr.alloc (boxO x)) W → RT w W (b ++ (⟨#[32]⟩ ++ b2)) (itoa id ++ 32 :: endB false ++ ((l.take (k + 1)).flatMap fun o => 32 :: textO o))) := Lib.hid fun W hW => ⟨by
          rw [HS.out, ← List.append_assoc, bts_app _ (32 :: textO x), ← HW.out.1, hb2']
          congr 1, (HW.out.2.lay _).trans hW⟩
        clear hb2' hxo HS
        go_wp2_with fail
        refine (HTX.out _).mono ?_
        rintro e w3 ⟨rfl, h3⟩
        have H3 := Lib.hid (HN.out _ h3)
        clear h3 HW HN
        go_wp2
        go_roundw
        case rel => exact ⟨k + 1, _, by go_num, rfl, by omega, by rw [ByteArray.size_append, ByteArray.size_append]; have : (⟨#[32]⟩ : ByteArray).size = 1 := rfl; omega, H3⟩
        case measure => simp [intOf]; omega
      · have HF : Hid (RT w wr b (textT id false l)) := Lib.hid (by have := HW.out; rwa [List.take_of_length_le (by omega)] at this)
        clear HW
        go_wp2
        exact HE.out _ _ HF.out.1 HF.out.2
  | true =>
    go_enter Tryd.func20, Tryd.ntmps20
    go_wp2_with fail
    refine (HTI.out _).mono ?_
    rintro e w1 ⟨rfl, h1⟩
    obtain ⟨hx0, ⟨x0, x1, x2⟩, _⟩ := cellsT (id := id) (d := true) (s := .slice p l.length c) ((h1.block w.heap.size (by simp)).trans (heap_alloc_at _ _ _ rfl))
    have HX1 := Lib.hid ((h1.block w.heap.size (by simp)).trans (heap_alloc_at _ (boxT id true (.slice p l.length c)) _ rfl))
    have H1 := Lib.hid ((Aft.one _).trans h1)
    clear h1
    go_wp2_with fail
    refine (HTI.out _).mono ?_
    rintro e w2 ⟨rfl, h2⟩
    have H1 := Lib.hid (H1.out.trans h2)
    have HX2 := Lib.hid ((h2.block w.heap.size hx0).trans HX1.out)
    clear h2 x0 x1 x2 hx0
    obtain ⟨hx0, ⟨x0, x1, x2⟩, _⟩ := cellsT HX2.out
    go_wp2
    go_loopw [3, 19] (fun s3 s19 wr => ∃ (k : Nat) (b : ByteArray), s19 = .int .i64 k ∧ s3 = .string b ∧ k ≤ l.length ∧ b.size ≤ 22 + 64 * k ∧ Hid (RT w wr b (itoa id ++ 32 :: endB true ++ ((l.take k).flatMap fun o => 32 :: textO o)))) (fun _ s19 _ => l.length - (intOf s19).toNat)
    case atStart => exact ⟨0, _, rfl, rfl, Nat.zero_le _, by rw [ByteArray.size_append]; have : (⟨#[32, 99]⟩ : ByteArray).size = 2 := rfl; omega, Lib.hid ⟨by rw [HB1.out]; simp [endB], H1.out⟩⟩
    case round =>
      obtain ⟨k, b, rfl, rfl, hk, hbs, HW⟩ := hrel
      by_cases hlt : k < l.length
      · obtain ⟨g', o', rfl, _, hg', c0, c1, c2, c3⟩ := HC.out k hlt
        have d0 := HW.out.2.cell hg' c0
        have d1 := HW.out.2.cell hg' c1
        have d2 := HW.out.2.cell hg' c2
        have d3 := HW.out.2.cell hg' c3
        have hxo := HOK.out k hlt
        have HS : Hid (((l.take (k + 1)).flatMap fun o => 32 :: textO o) = ((l.take k).flatMap fun o => 32 :: textO o) ++ 32 :: textO (l.getD k Opr.zero)) := Lib.hid (by rw [take_snoc l Opr.zero k hlt, List.flatMap_append]; simp)
        clear c0 c1 c2 c3
        generalize l.getD k Opr.zero = x at d0 d1 d2 d3 HS hxo
        obtain ⟨b2, hb2'⟩ : ∃ b2, b2 = bts (textO x) := ⟨_, rfl⟩
        have hs2 : b2.size ≤ 63 := by rw [hb2', bts_size]; exact textO_len x hxo
        have hs3 : b2.size + 1 ≤ 64 := by omega
        have hs4 : b.size + (b2.size + 1) ≤ 22 + 64 * (k + 1) := by omega
        have hs5 : 22 + 64 * (k + 1) ≤ 7000000 := by omega
        have HTX : Hid (∀ W, Calls Tryd.prog 40 #[.agg #[.bool x.rd, .int .i64 x.k, .int .i64 x.t, .int .i64 x.n]] W fun e w' => e = .returned (.string b2) ∧ Aft W w') := Lib.hid fun W => by rw [hb2']; exact Op.text2R_any x hxo W
        have HN : Hid (∀ W, Aft (wr.alloc (boxO x)) W → RT w W (b ++ (⟨#[32]⟩ ++ b2)) (itoa id ++ 32 :: endB true ++ ((l.take (k + 1)).flatMap fun o => 32 :: textO o))) := Lib.hid fun W hW => ⟨by
          rw [HS.out, ← List.append_assoc, bts_app _ (32 :: textO x), ← HW.out.1, hb2']
          congr 1, (HW.out.2.lay _).trans hW⟩
        clear hb2' hxo HS
        go_wp2_with fail
        refine (HTX.out _).mono ?_
        rintro e w3 ⟨rfl, h3⟩
        have H3 := Lib.hid (HN.out _ h3)
        clear h3 HW HN
        go_wp2
        go_roundw
        case rel => exact ⟨k + 1, _, by go_num, rfl, by omega, by rw [ByteArray.size_append, ByteArray.size_append]; have : (⟨#[32]⟩ : ByteArray).size = 1 := rfl; omega, H3⟩
        case measure => simp [intOf]; omega
      · have HF : Hid (RT w wr b (textT id true l)) := Lib.hid (by have := HW.out; rwa [List.take_of_length_le (by omega)] at this)
        clear HW
        go_wp2
        exact HE.out _ _ HF.out.1 HF.out.2

end Go.Proofs.YtphagkpnfbdncaaDoor.Tx
