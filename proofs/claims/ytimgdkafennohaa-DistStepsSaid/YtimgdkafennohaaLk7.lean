/-
  Links told by counts: change. Not a statement of the seat.
-/
import Derived.Test.YtimgdkafennohaaLk6
namespace Go.Proofs.Ytimgdkafennohaa.Ln
open Go.ChangeShapes Go.WideShapes Go.ChangeAt Go.RowKit Base Ro F
theorem ownK_form {B : Nat} {w : World} {V : Value} {ks : List Lk} (h : OwnK B w V ks) : ∃ p cap, V = .slice p ks.length cap := by
  rcases h.2 with ⟨rfl, h0⟩ | ⟨g, cap, cur, rfl, _⟩
  · exact ⟨none, 0, by rw [h0]⟩
  · exact ⟨_, _, rfl⟩
theorem ownK_form1 {B : Nat} {w : World} {V : Value} {ks : List Lk} (h : OwnK B w V ks) (h0 : 0 < ks.length) : ∃ g cap, V = .slice (some ⟨g, 0, none⟩) ks.length cap := by
  rcases h.2 with ⟨rfl, h0⟩ | ⟨g, cap, cur, rfl, _⟩
  · omega
  · exact ⟨_, _, rfl⟩
theorem bitsOf_pos {f : Nat → Int} {k : Nat} (hk : k < 4) (h : 0 < f k) : bitsOf f ≠ 0 := by
  unfold bitsOf
  match k, hk with
  | 0, _ => rw [if_pos h]; split <;> split <;> split <;> omega
  | 1, _ => rw [if_pos h]; split <;> split <;> split <;> omega
  | 2, _ => rw [if_pos h]; split <;> split <;> split <;> omega
  | 3, _ => rw [if_pos h]; split <;> split <;> split <;> omega
theorem upd_same (cnt : Nat → Nat → Int) (node k : Nat) : upd cnt node k (cnt node k) = cnt := by
  funext n j
  unfold upd
  split
  · rename_i h; rw [h.1, h.2]
  · rfl
theorem change_any {B nb i N node k : Nat} {V : Value} {cnt : Nat → Nat → Int} {by_ v : Int} (w : World) (hV : w.cell? ⟨nb, i, none⟩ = some V) (hnb : nb < w.heap.size) (ho : OwnK B w V (canK cnt (List.range N))) (hN : N ≤ 5000) (hnode : node < N) (hk : k < 4)
    (hcb : ∀ n j, 0 ≤ cnt n j ∧ cnt n j ≤ 1000000) (hv : v = cnt node k + by_) (hby : by_ = 1 ∨ by_ = -1 ∧ 0 < cnt node k) (hnbg : V.ownBlock ≠ some nb) (hfz : w.frozen? ⟨nb, i, none⟩ = false) (hB : B ≤ w.heap.size) :
    Calls Try.prog 23 #[.pointer (some ⟨nb, i, none⟩), .int .i64 (node : Int), .int .i64 (k : Int), .int .i64 by_] w (ChgP B nb i V (canK (upd cnt node k v) (List.range N)) w) := by
  have hgd := canK_good cnt hN
  obtain ⟨suf, hcut, hsuf⟩ := range_cut hnode
  have hup : canK (upd cnt node k v) (List.range N) = canK cnt (List.range node) ++ (entK (upd cnt node k v) node ++ canK cnt suf) := by
    rw [hcut, canK_app, canK_cons, canK_upd (fun n hn => by rw [List.mem_range] at hn; omega), canK_upd (fun n hn => by have := hsuf n hn; omega)]
  have hks : canK cnt (List.range N) = canK cnt (List.range node) ++ (entK cnt node ++ canK cnt suf) := by rw [hcut, canK_app, canK_cons]
  have hF := canK_fst (cnt := cnt) (node := node) (ent := entK cnt node) (suf := canK cnt suf) (fun x hx => by obtain ⟨n, h1, h2, _⟩ := canK_mem hx; have := hsuf n h1; omega) (fun x hx => (entK_nd hx).1)
  rw [← hks] at hF
  rw [hup]
  have hb := hcb node k
  have hbp : ¬ 0 < v → v ≤ 0 := fun h => by omega
  have hs2 := bit_w k hk
  by_cases hent : bitsOf (cnt node) = 0
  · -- a link that is new
    have he0 : entK cnt node = [] := by unfold entK; rw [if_pos hent]
    have hc0 : ∀ j, j < 4 → cnt node j = 0 := fun j hj => by
      have := hcb node j
      by_cases hp : 0 < cnt node j
      · exact absurd hent (bitsOf_pos hj hp)
      · omega
    have hck := hc0 k hk
    have hz0 : upd cnt node k 0 = cnt := by have := upd_same cnt node k; rw [hck] at this; exact this
    have hby1 : by_ = 1 := by omega
    have hv1 : v = 1 := by omega
    obtain ⟨p, cap, rfl⟩ := ownK_form ho
    have h1 : bits .andNot .i16 0 (2 ^ k) = 0 := by
      have := bit_out (cnt node) k hk 0 (by omega)
      rw [hent] at this
      rw [this, ← upd_at, hz0, hent]
    have h2 : bits .or .i16 0 (2 ^ k) = bitsOf (upd cnt node k v node) := by
      have := bit_in (cnt node) k hk 0 v (by omega) (by omega)
      rw [← upd_at, ← upd_at, hz0, hent] at this
      exact this
    have hnz : bitsOf (upd cnt node k v node) ≠ 0 := bitsOf_pos hk (by rw [upd_at]; simp; omega)
    rw [he0, List.nil_append] at hks
    have hnn : lnk (upd cnt node k v) node = setkK (setcK (newK node) k v) (bitsOf (upd cnt node k v node)) := by
      rw [← lnk_upd cnt node k hk v]
      have : ∀ s : Int, setkK (setcK (lnk cnt node) k v) s = setkK (setcK (newK node) k v) s := fun s => by
        unfold lnk newK
        rw [hc0 0 (by omega), hc0 1 (by omega), hc0 2 (by omega), hc0 3 (by omega)]
        match k, hk with
        | 0, _ => rfl
        | 1, _ => rfl
        | 2, _ => rfl
        | 3, _ => rfl
      exact this _
    have := chg_new (B := B) (nb := nb) (i := i) (p := p) (n := (canK cnt (List.range N)).length) (cap := cap) (node := (node : Int)) (r := (canK cnt (List.range node)).length) (k := k) (ks := canK cnt (List.range N)) (by_ := by_) (c := 0) (c' := v) (s := 0) (s1 := 0) (s2 := bitsOf (upd cnt node k v node)) (bit := 2 ^ k) w rfl hV hnb ho hgd hF
      (fun h => by
        obtain ⟨h3, h4⟩ := h
        rw [hks] at h3 h4
        rw [List.getD_eq_getElem?_getD, List.getElem?_append_right (Nat.le_refl _), Nat.sub_self] at h4
        rw [List.length_append] at h3
        have hpos : 0 < (canK cnt suf).length := by omega
        rw [List.getElem?_eq_getElem hpos] at h4
        simp only [Option.getD_some] at h4
        obtain ⟨n, h5, h6, _⟩ := canK_mem (List.getElem_mem hpos)
        have := hsuf n h5
        omega) (by rw [hks, List.length_append]; omega) hk rfl rfl hby1 hv1 hs2 h1 h2 (by simpa using hnz) hnbg hfz hB (by omega)
    have hin : inK (canK cnt (List.range N)) (canK cnt (List.range node)).length (setkK (setcK (newK node) k v) (bitsOf (upd cnt node k v node))) = canK cnt (List.range node) ++ (entK (upd cnt node k v) node ++ canK cnt suf) := by
      unfold inK entK
      rw [if_neg hnz, hks, hnn]
      simp
    rw [hin] at this
    exact this
  · have he1 : entK cnt node = [lnk cnt node] := by unfold entK; rw [if_neg hent]
    have hrl : (canK cnt (List.range node)).length < (canK cnt (List.range N)).length := by rw [hks, he1]; simp
    have hget : (canK cnt (List.range N)).getD (canK cnt (List.range node)).length Lk.zero = lnk cnt node := by
      rw [hks, he1, List.getD_eq_getElem?_getD, List.getElem?_append_right (Nat.le_refl _)]
      simp
    obtain ⟨g, cap, rfl⟩ := ownK_form1 ho (by omega)
    have hne : nb ≠ g := fun e => hnbg (by rw [e]; rfl)
    have hset : ∀ y, (canK cnt (List.range N)).set (canK cnt (List.range node)).length y = canK cnt (List.range node) ++ (y :: canK cnt suf) := fun y => by
      rw [hks, he1, List.set_append_right _ _ (Nat.le_refl _)]
      simp
    have hout : outK (canK cnt (List.range N)) (canK cnt (List.range node)).length = canK cnt (List.range node) ++ canK cnt suf := by
      unfold outK
      rw [hks, he1]
      simp
    by_cases hpos : 0 < v
    · -- one more or one less, some are left
      have hnz : bitsOf (upd cnt node k v node) ≠ 0 := bitsOf_pos hk (by rw [upd_at]; simp; omega)
      have := chg_up (B := B) (nb := nb) (i := i) (g := g) (n := (canK cnt (List.range N)).length) (cap := cap) (node := (node : Int)) (r := (canK cnt (List.range node)).length) (k := k) (ks := canK cnt (List.range N)) (by_ := by_) (c := cnt node k) (c' := v) (s := bitsOf (cnt node)) (s1 := bitsOf (fun j => if j = k then 0 else cnt node j)) (s2 := bitsOf (upd cnt node k v node)) (bit := 2 ^ k) w rfl hV hnb ho hgd hF hrl
        (by rw [hget]; rfl) hk (by rw [hget]; exact cnt_lnk cnt node k hk) (by rw [hget]; rfl) (by omega) hb hv hpos hs2 (bit_out (cnt node) k hk 0 (by omega)) (by rw [upd_at]; exact bit_in (cnt node) k hk 0 v (by omega) hpos) (by simpa using hnz)
      rw [hget, lnk_upd cnt node k hk v, hset] at this
      have he2 : entK (upd cnt node k v) node = [lnk (upd cnt node k v) node] := by unfold entK; rw [if_neg hnz]
      rw [he2]
      exact this.mono (chg_stay hV hnb hne)
    · have hbo := bit_out (cnt node) k hk v hpos
      rw [← upd_at cnt node k v] at hbo
      by_cases hz : bitsOf (upd cnt node k v node) = 0
      · have := chg_out (B := B) (nb := nb) (i := i) (g := g) (n := (canK cnt (List.range N)).length) (cap := cap) (node := (node : Int)) (r := (canK cnt (List.range node)).length) (k := k) (ks := canK cnt (List.range N)) (by_ := by_) (c := cnt node k) (c' := v) (s := bitsOf (cnt node)) (s1 := bitsOf (upd cnt node k v node)) (bit := 2 ^ k) w rfl hV hnb ho hgd hF hrl
          (by rw [hget]; rfl) hk (by rw [hget]; exact cnt_lnk cnt node k hk) (by rw [hget]; rfl) (by omega) hb hv hpos hs2 hbo hz hne hfz
        rw [hout] at this
        have he2 : entK (upd cnt node k v) node = [] := by unfold entK; rw [if_pos hz]
        rw [he2]
        exact this
      · have := chg_down (B := B) (nb := nb) (i := i) (g := g) (n := (canK cnt (List.range N)).length) (cap := cap) (node := (node : Int)) (r := (canK cnt (List.range node)).length) (k := k) (ks := canK cnt (List.range N)) (by_ := by_) (c := cnt node k) (c' := v) (s := bitsOf (cnt node)) (s1 := bitsOf (upd cnt node k v node)) (bit := 2 ^ k) w rfl hV hnb ho hgd hF hrl
          (by rw [hget]; rfl) hk (by rw [hget]; exact cnt_lnk cnt node k hk) (by rw [hget]; rfl) (by omega) hb hv hpos hs2 hbo (by simpa using hz)
        rw [hget, lnk_upd cnt node k hk v, hset] at this
        have he2 : entK (upd cnt node k v) node = [lnk (upd cnt node k v) node] := by unfold entK; rw [if_neg hz]
        rw [he2]
        exact this.mono (chg_stay hV hnb hne)
end Go.Proofs.Ytimgdkafennohaa.Ln
