/-
  Links: a link that is new. Not a statement of the seat.
-/
import Derived.Test.YtimgdkafennohaaHead11
import Derived.RegionTactic
import Derived.BigRegion
namespace Go.Proofs.Ytimgdkafennohaa.Ln
open Go.ChangeShapes Go.WideShapes Go.ChangeAt Go.RowKit Base Ro F
/-- A link put in. -/
def inK (ks : List Lk) (r : Nat) (y : Lk) : List Lk := ks.take r ++ y :: ks.drop r
theorem inK_len {ks : List Lk} {r : Nat} (y : Lk) (h : r ≤ ks.length) : (inK ks r y).length = ks.length + 1 := by
  simp [inK]; omega
theorem flatK_in (ks : List Lk) (r : Nat) (y : Lk) : (flatK ks).take (r * 6) ++ Lk.vals y ++ (flatK ks).drop (r * 6) = flatK (inK ks r y) := by
  rw [← flatK_take, ← flatK_drop]
  simp [flatK, inK]
theorem inK_set {ks : List Lk} {r : Nat} (y z : Lk) (h : r ≤ ks.length) : (inK ks r y).set r z = inK ks r z := by
  unfold inK
  rw [List.set_append_right _ _ (by simp; omega)]
  simp [Nat.min_eq_left h]
theorem inK_get {ks : List Lk} {r : Nat} (y : Lk) (h : r ≤ ks.length) : (inK ks r y).getD r Lk.zero = y := by
  simp [inK, List.getD_eq_getElem?_getD, Nat.min_eq_left h]
def newK (node : Int) : Lk := ⟨node, 0, 0, 0, 0, 0⟩
theorem own_any {w w' : World} {B size n : Nat} {e : TypeId} {v : Value} {xs : List Value} (h : w.ownsRow B e size v n xs) (hk : ∀ k, v.ownBlock = some k → w'.heap[k]? = w.heap[k]?) : w'.ownsRow B e size v n xs := by
  refine ⟨h.1, ?_⟩
  rcases h.2 with h4 | ⟨g, C', cur, rfl, h2, h3, h5⟩
  · exact .inl h4
  · exact .inr ⟨g, C', cur, rfl, h2, (hk g rfl).trans h3, h5⟩
set_option maxHeartbeats 4000000 in
set_option maxRecDepth 100000 in
theorem chg_new {B nb i n cap r k : Nat} {p : Option Addr} {ks : List Lk} {node by_ c c' s s1 s2 bit : Int} (w : World) (hl : n = ks.length) (hV : w.cell? ⟨nb, i, none⟩ = some (.slice p n cap)) (hnb : nb < w.heap.size) (ho : OwnK B w (.slice p n cap) ks) (hg : GoodK ks) (hr : Fst (geK ks node) ks.length r) (hrn : ¬ (r < ks.length ∧ (ks.getD r Lk.zero).nd = node)) (hrl : r ≤ ks.length)
    (hk : k < 4) (hc : c = 0) (hs : s = 0) (hby : by_ = 1) (hc' : c' = 1) (hbit : IntKind.i16.wrap (2 ^ k) = bit) (h1 : bits .andNot .i16 s bit = s1) (h2 : bits .or .i16 s1 bit = s2) (hz : (s2 == 0) = false) (hnbg : (Value.slice p n cap).ownBlock ≠ some nb) (hfz : w.frozen? ⟨nb, i, none⟩ = false) (hB : B ≤ w.heap.size) (hnd : 0 ≤ node ∧ node ≤ 32767) :
    Calls Try.prog 23 #[.pointer (some ⟨nb, i, none⟩), .int .i64 node, .int .i64 (k : Int), .int .i64 by_] w (ChgP B nb i (.slice p n cap) (inK ks r (setkK (setcK (newK node) k c') s2)) w) := by
  have HBS := Lib.hid (bsearch_k p cap ks node r w (by have := hg.2.1; omega) ho.lks hg.2.2 hg.1 hr)
  rw [decide_eq_false hrn, ← hl] at HBS
  have hnw : IntKind.i16.wrap node = node := by simp [IntKind.wrap, IntKind.bits, IntKind.signed]; omega
  have hn5 : n ≤ 5000 := by rw [hl]; exact hg.2.1
  have hrn2 : r < n + 1 := by omega
  have hwc : IntKind.i32.wrap (c + by_) = c' := by rw [hc, hby, hc']; decide
  have hwb : IntKind.i32.wrap by_ = by_ := by rw [hby]; decide
  have hkI : (k : Int) < 4 := by omega
  have hpos : 0 < c' := by omega
  have hob : ∀ g', (Value.slice p n cap).ownBlock = some g' → g' < w.heap.size := fun g' e => by
    rcases ho.2 with ⟨h4, _⟩ | ⟨g, C', cur, h4, _, h3, _⟩
    · injection h4 with h4; subst h4; simp [Value.ownBlock] at e
    · injection h4 with h4; subst h4
      have : g = g' := by simpa [Value.ownBlock] using e
      exact this ▸ heap_lt h3
  have HINS : Hid (∀ w1, Below w.heap.size w w1 → Calls Try.prog 36 #[.slice p n cap, .int .i64 r, .slice (some ⟨w1.heap.size, 0, none⟩) 1 1] (w1.alloc (.cells #[.int .i16 node, .int .i16 0, .int .i32 0, .int .i32 0, .int .i32 0, .int .i32 0] 73)) fun e w3 =>
      ∃ g' cap', e = .returned (.slice (some ⟨g', 0, none⟩) (n + 1) cap') ∧ w3.cell? ⟨nb, i, none⟩ = some (.slice p n cap) ∧ w3.frozen? ⟨nb, i, none⟩ = false ∧ ∀ W, W = w3.setCell ⟨nb, i, none⟩ (.slice (some ⟨g', 0, none⟩) (n + 1) cap') →
        (nb ≠ g' ∧ W.cell? ⟨nb, i, none⟩ = some (.slice (some ⟨g', 0, none⟩) (n + 1) cap') ∧ W.cell? ⟨g', r * 6 + 2 + k, none⟩ = some (.int .i32 c) ∧ W.cell? ⟨g', r * 6 + 1, none⟩ = some (.int .i16 s) ∧ W.frozen? ⟨g', r * 6 + 2 + k, none⟩ = false ∧ W.frozen? ⟨g', r * 6 + 1, none⟩ = false) ∧
        ∀ W', W'.heap = (((W.setCell ⟨g', r * 6 + 2 + k, none⟩ (.int .i32 c')).setCell ⟨g', r * 6 + 1, none⟩ (.int .i16 s1)).setCell ⟨g', r * 6 + 1, none⟩ (.int .i16 s2)).heap → W'.os = W.os → W'.tape = W.tape → W'.output = W.output →
          ChgP B nb i (.slice p n cap) (inK ks r (setkK (setcK (newK node) k c') s2)) w (.returned (.tuple #[])) W') := Lib.hid fun w1 hb => by
    obtain ⟨o, ho_⟩ : ∃ o, o = Obj.cells #[.int .i16 node, .int .i16 0, .int .i32 0, .int .i32 0, .int .i32 0, .int .i32 0] 73 (0, 0) := ⟨_, rfl⟩
    have hba : Below w.heap.size w (w1.alloc o) := hb.alloc hb.size o
    have hown : OwnK B (w1.alloc o) (.slice p n cap) ks := own_any ho (fun k hk => hba.block k (hob k hk))
    unfold OwnK at hown
    rw [← hl] at hown
    have hsz : (w1.alloc o).heap.size = w1.heap.size + 1 := by simp
    rw [← ho_]
    refine (insK (y := Lk.vals (newK node)) hown r (by omega) (by omega) (by have := hba.size; omega) rfl (by rw [ho_]; exact heap_alloc_at _ _ _ rfl) (fun u hu => oneK [newK node] u (by simpa [flatK] using hu)) (oneK ks) (fun e => by have := hob _ e; have := hb.size; omega)).mono ?_
    rintro e w3 ⟨v', rfl, ho3, hg3, hat⟩
    rw [flatK_in] at ho3
    have hf3 : Fr (fun h => (Value.slice p n cap).ownBlock = some h) w w3 := (Fr.of_below hba).trans (Fr.of_grown (F := fun h => (Value.slice p n cap).ownBlock = some h) hg3 (fun k hk => hk)) (fun _ _ h => h)
    have hbk := hf3.block hnb hnbg
    rcases ho3.2 with ⟨rfl, h4⟩ | ⟨g', c2, cur, rfl, h5⟩
    · omega
    · have hg4 : g' < w3.heap.size := heap_lt h5.2.1
      have hat' : (Value.slice p n cap).ownBlock = some g' ∨ w.heap.size ≤ g' := by
        rcases hat with h | h
        · exact .inl (by rw [← h]; rfl)
        · refine .inr ?_
          have : g' = (w1.alloc o).heap.size := by simpa [Value.ownBlock] using h
          have := hba.size
          omega
      have hne : nb ≠ g' := fun e => by
        rcases hat' with h | h
        · exact hnbg (by rw [h, e])
        · omega
      refine ⟨g', c2, rfl, ?_, ?_, ?_⟩
      · simp only [World.cell?, hbk] at hV ⊢; exact hV
      · simp only [World.frozen?, hbk] at hfz ⊢; exact hfz
      · intro W hW
        have hc3 : w3.cell? ⟨nb, i, none⟩ = some (.slice p n cap) := by simp only [World.cell?, hbk] at hV ⊢; exact hV
        have hWg : W.heap[g']? = w3.heap[g']? := by rw [hW]; exact Below.heap_setCell _ _ _ _ (Ne.symm hne)
        have hoW := own_blk (w' := W) ho3 hWg
        have hlen := flatK_len (inK ks r (newK node))
        have hil := inK_len (newK node) hrl
        have hcell : ∀ j, j < 6 → W.cell? ⟨g', r * 6 + j, none⟩ = (Lk.vals (newK node))[j]? ∧ W.frozen? ⟨g', r * 6 + j, none⟩ = false := fun j hj => by
          have hgt := flatK_get (inK ks r (newK node)) r j (by omega) hj
          rw [inK_get _ hrl] at hgt
          have hv : (Lk.vals (newK node))[j]? = some ((Lk.vals (newK node))[j]'(by simpa [Lk.vals] using hj)) := List.getElem?_eq_getElem _
          have := World.ownsRow.cells hoW (g := g') rfl (r * 6 + j) _ (hgt.trans hv)
          rw [add_plain, Nat.zero_add] at this
          refine ⟨by rw [hv]; exact this, ?_⟩
          simp [World.frozen?, hWg, h5.2.1]
        have hcc := hcell (2 + k) (by omega)
        rw [vals_cnt _ k hk, ← Nat.add_assoc] at hcc
        have hcn : cntK (newK node) k = c := by rw [hc]; match k, hk with
          | 0, _ => rfl
          | 1, _ => rfl
          | 2, _ => rfl
          | 3, _ => rfl
        rw [hcn] at hcc
        have hcs : W.cell? ⟨g', r * 6 + 1, none⟩ = some (.int .i16 s) ∧ W.frozen? ⟨g', r * 6 + 1, none⟩ = false := by
          have := hcell 1 (by omega)
          rw [hs]
          exact this
        refine ⟨⟨hne, by rw [hW]; exact World.cell?_setCell_same _ _ _ hc3, hcc.1, hcs.1, hcc.2, hcs.2⟩, fun W' hW' q1 q2 q3 => ?_⟩
        have hset : inK ks r (setkK (setcK (newK node) k c') s2) = (inK ks r (newK node)).set r (setkK (setcK (newK node) k c') s2) := (inK_set _ _ hrl).symm
        have hv1 : flatK ((inK ks r (newK node)).set r (setcK (newK node) k c')) = (flatK (inK ks r (newK node))).set (r * 6 + 2 + k) (.int .i32 c') := by
          rw [Nat.add_assoc]
          exact flatK_set _ r (2 + k) _ _ (by omega) (by omega) (by rw [inK_get _ hrl]; exact vals_setc _ k hk c')
        have hv2 : ∀ s3 : Int, flatK ((inK ks r (newK node)).set r (setkK (setcK (newK node) k c') s3)) = ((flatK (inK ks r (newK node))).set (r * 6 + 2 + k) (.int .i32 c')).set (r * 6 + 1) (.int .i16 s3) := fun s3 => by
          have := flatK_set ((inK ks r (newK node)).set r (setcK (newK node) k c')) r 1 (setkK (setcK (newK node) k c') s3) (.int .i16 s3) (by rw [List.length_set]; omega) (by omega) (by rw [inK_set _ _ hrl, inK_get _ hrl]; rfl)
          rw [List.set_set, hv1] at this
          exact this
        have h3 := own_set (own_set (own_set hoW (r * 6 + 2 + k) (.int .i32 c')) (r * 6 + 1) (.int .i16 s1)) (r * 6 + 1) (.int .i16 s2)
        rw [List.set_set, ← hv2, ← hset] at h3
        have h3' := own_blk (w' := W') h3 (by rw [hW'])
        refine ⟨rfl, .slice (some ⟨g', 0, none⟩) (n + 1) c2, ?_, ?_, ?_, ?_⟩
        · unfold OwnK
          rw [inK_len _ hrl, ← hl]
          exact h3'
        · rcases hat' with h | h
          · exact .inl h.symm
          · exact .inr ⟨g', rfl, h⟩
        · rw [hW', Below.heap_setCell _ _ _ _ hne, Below.heap_setCell _ _ _ _ hne, Below.heap_setCell _ _ _ _ hne, hW]
          simp only [World.setCell, Array.getElem?_modify, if_true]
          rw [hbk]
        · have hWW : W.os = w3.os ∧ W.tape = w3.tape ∧ W.output = w3.output := by rw [hW]; exact ⟨rfl, rfl, rfl⟩
          refine ⟨q1.trans (hWW.1.trans hf3.1), q2.trans (hWW.2.1.trans hf3.2.1), q3.trans (hWW.2.2.trans hf3.2.2.1), ?_, fun h hlt hn => ?_⟩
          · rw [hW', hW]; simp only [World.setCell, Array.size_modify]; exact hf3.2.2.2.1
          · have hh1 : h ≠ g' := fun e => by
              rcases hat' with h' | h'
              · exact hn (.inl (by rw [h', e]))
              · omega
            have hh2 : h ≠ nb := fun e => hn (.inr e)
            rw [hW', Below.heap_setCell _ _ _ _ hh1, Below.heap_setCell _ _ _ _ hh1, Below.heap_setCell _ _ _ _ hh1, hW, Below.heap_setCell _ _ _ _ hh2]
            exact hf3.block hlt (fun e => hn (.inl e))
  generalize ChgP B nb i (.slice p n cap) (inK ks r (setkK (setcK (newK node) k c') s2)) w = Post at HINS ⊢
  clear ho hg hr hl hrn hrl hB hnd hnbg hob hc hs hby hc'
  go_enter Try.func23, Try.ntmps23
  go_wp2_with fail
  refine (HBS.out).mono ?_
  rintro e w1 ⟨rfl, hb⟩
  have HB1 := Lib.hid hb
  have hnb1 : nb < w1.heap.size := Nat.lt_of_lt_of_le hnb hb.size
  have hbb : ∀ o, (w1.alloc o).heap[nb]? = w.heap[nb]? := fun o => ((Below.refl _ _ : Below w1.heap.size w1 w1).alloc (Nat.le_refl _) o).block nb hnb1 |>.trans (hb.block nb hnb)
  have b0 := (hb.cell (p := ⟨nb, i, none⟩) hnb).trans hV
  have p0 : ∀ o, (w1.alloc o).cell? ⟨nb, i, none⟩ = some (.slice p n cap) := fun o => by simp only [World.cell?, hbb] at hV ⊢; exact hV
  clear hb HBS
  go_wp2_with fail
  refine (HINS.out w1 HB1.out).mono ?_
  rintro e w3 ⟨g', cap', rfl, z0, z1, z2⟩
  clear b0 p0 hbb hV hfz hnb hnb1 HINS HB1
  obtain ⟨⟨hne, e0, b1, b2, b3, b4⟩, hfin⟩ := z2 _ rfl
  have HFIN := Lib.hid hfin
  have B1 := Lib.hid b1
  have B2 := Lib.hid b2
  have B3 := Lib.hid b3
  have B4 := Lib.hid b4
  clear z2 hfin b1 b2 b3 b4
  go_wp2_with fail
  generalize w3.setCell ⟨nb, i, none⟩ (.slice (some ⟨g', 0, none⟩) (n + 1) cap') = w4 at e0 HFIN B1 B2 B3 B4 ⊢
  have b1 := B1.out
  have b2 := B2.out
  have b3 := B3.out
  have b4 := B4.out
  clear B1 B2 B3 B4 z0 z1
  go_region
  go_wp2_with fail
  have hne1 : ¬ (r * 6 + 2 + k = r * 6 + 1) := by omega
  have hne2 : ¬ (r * 6 + 1 = r * 6 + 2 + k) := by omega
  go_region
  go_wp2_with fail
  have hx0 : ((w4.setCell ⟨g', r * 6 + 2 + k, none⟩ (.int .i32 c')).setCell ⟨g', r * 6 + 1, none⟩ (.int .i16 s1)).cell? ⟨g', r * 6 + 1, none⟩ = some (.int .i16 s1) := World.cell?_setCell_same _ _ _ ((World.cell?_setCell_other _ _ _ _ (by first | (simp; done) | (simp; omega))).trans b2)
  have hx : (((w4.setCell ⟨g', r * 6 + 2 + k, none⟩ (.int .i32 c')).setCell ⟨g', r * 6 + 1, none⟩ (.int .i16 s1)).setCell ⟨g', r * 6 + 1, none⟩ (.int .i16 s2)).cell? ⟨g', r * 6 + 1, none⟩ = some (.int .i16 s2) := World.cell?_setCell_same _ _ _ hx0
  go_region
  go_wp2
  exact bodyPost_end (v := .tuple #[]) (results_none rfl _ _ _) rfl (HFIN.out _ rfl rfl rfl rfl)
end Go.Proofs.Ytimgdkafennohaa.Ln
