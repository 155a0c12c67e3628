/-
  Contracts of small functions, several texts laid into one. Not a statement of the seat.
-/
import Derived.Test.YtcmafmdcgkpagaaGreatHead13
import Derived.Test.YtcmafmdcgkpagaaGreatHead12
import Derived.Test.YtcmafmdcgkpagaaGreatHead15
import Derived.Test.YtcmafmdcgkpagaaGreatHead2
import Derived.Test.YtcmafmdcgkpagaaGreatHead1
import Derived.Test.YtcmafmdcgkpagaaGreatHead4
import Derived.Test.YtcmafmdcgkpagaaGreatHead5
import Derived.Deep.RegionHeld3
namespace Go.Proofs.YtcmafmdcgkpagaaGreat.Dg
open F Tx Hi Off
/-- Sums over lists. -/
def sm {α : Type} (f : α → Nat) : List α → Nat
  | [] => 0
  | x :: l => f x + sm f l
section
variable {α β : Type}
theorem sm_zero (l : List α) : sm (fun _ => 0) l = 0 := by
  induction l with
  | nil => rfl
  | cons x l ih => rw [sm, ih]
theorem sm_congr {f g : α → Nat} {l : List α} (h : ∀ x ∈ l, f x = g x) : sm f l = sm g l := by
  induction l with
  | nil => rfl
  | cons x l ih => rw [sm, sm, h x List.mem_cons_self, ih fun y hy => h y (List.mem_cons_of_mem _ hy)]
theorem sm_add (f g : α → Nat) (l : List α) : sm (fun x => f x + g x) l = sm f l + sm g l := by
  induction l with
  | nil => rfl
  | cons x l ih => simp only [sm]; rw [ih]; omega
theorem sm_comm (f : α → β → Nat) (l : List α) (m : List β) : sm (fun a => sm (f a) m) l = sm (fun b => sm (fun a => f a b) l) m := by
  induction l with
  | nil => simp only [sm]; rw [sm_zero]
  | cons x l ih => simp only [sm]; rw [ih, sm_add]
theorem sm_append (f : α → Nat) (l m : List α) : sm f (l ++ m) = sm f l + sm f m := by
  induction l with
  | nil => simp [sm]
  | cons x l ih => simp only [List.cons_append, sm]; rw [ih]; omega
theorem sm_take (f : α → Nat) (z : α) (l : List α) (k : Nat) (h : k < l.length) : sm f (l.take (k + 1)) = sm f (l.take k) + f (l.getD k z) := by
  rw [Tx.take_snoc l z k h, sm_append]
  simp [sm]
theorem sm_map (f : β → Nat) (g : α → β) (l : List α) : sm f (l.map g) = sm (fun x => f (g x)) l := by
  induction l with
  | nil => rfl
  | cons x l ih => simp only [List.map_cons, sm]; rw [ih]
theorem sm_le (f : α → Nat) (b : Nat) (l : List α) (h : ∀ x ∈ l, f x ≤ b) : sm f l ≤ b * l.length := by
  induction l with
  | nil => simp [sm]
  | cons x l ih =>
    have h1 := ih fun y hy => h y (List.mem_cons_of_mem _ hy)
    have h2 := h x List.mem_cons_self
    rw [sm, List.length_cons, Nat.mul_succ]
    omega
theorem sm_length (l : List α) : sm (fun _ => 1) l = l.length := by
  induction l with
  | nil => rfl
  | cons x l ih => rw [sm, ih, List.length_cons]; omega
theorem sm_filter (p : α → Bool) (l : List α) : (l.filter p).length = sm (fun x => if p x = true then 1 else 0) l := by
  induction l with
  | nil => rfl
  | cons x l ih =>
    rw [sm, ← ih, List.filter_cons]
    split <;> simp [*] <;> omega
theorem sm_none [DecidableEq α] (z : α) (l : List α) (h : z ∉ l) : sm (fun x => if x = z then 1 else 0) l = 0 := by
  induction l with
  | nil => rfl
  | cons x l ih =>
    rw [sm, ih fun hh => h (List.mem_cons_of_mem _ hh), if_neg fun e => h (by rw [e]; exact List.mem_cons_self)]
/-- One of a list in which none stands twice. -/
theorem sm_one [DecidableEq α] (z : α) (l : List α) (hn : l.Nodup) (h : z ∈ l) : sm (fun x => if x = z then 1 else 0) l = 1 := by
  induction l with
  | nil => cases h
  | cons x l ih =>
    obtain ⟨h1, h2⟩ := List.nodup_cons.1 hn
    rw [sm]
    by_cases e : x = z
    · rw [if_pos e, sm_none z l (e ▸ h1)]
    · rw [if_neg e, ih h2 (by
        rcases List.mem_cons.1 h with h | h
        · exact absurd h.symm e
        · exact h)]
theorem sm_pos {f : α → Nat} {l : List α} {x : α} (hx : x ∈ l) : f x ≤ sm f l := by
  induction l with
  | nil => cases hx
  | cons y l ih =>
    rw [sm]
    rcases List.mem_cons.1 hx with rfl | h
    · omega
    · have := ih h
      omega
theorem sm_some {f : α → Nat} {l : List α} (h : sm f l ≠ 0) : ∃ x, x ∈ l ∧ f x ≠ 0 := by
  induction l with
  | nil => exact absurd rfl h
  | cons y l ih =>
    by_cases h0 : f y = 0
    · rw [sm, h0, Nat.zero_add] at h
      obtain ⟨x, h1, h2⟩ := ih h
      exact ⟨x, List.mem_cons_of_mem _ h1, h2⟩
    · exact ⟨y, List.mem_cons_self, h0⟩
end
def toE (e : Edg) : Pk.E := (e.f, e.t, e.kd, e.k)
def ofE (x : Pk.E) : Edg := ⟨x.1, x.2.1, x.2.2.1, x.2.2.2⟩
theorem ofE_toE (e : Edg) : ofE (toE e) = e := rfl
theorem toE_ofE (x : Pk.E) : toE (ofE x) = x := rfl
theorem ofE_inj {x y : Pk.E} (h : ofE x = ofE y) : x = y := by rw [← toE_ofE x, h, toE_ofE]
def hvy (c : Edg → Nat) (x : Pk.E) : Hvy := ⟨x.1, x.2.1, x.2.2.1, x.2.2.2, ((c (ofE x) : Nat) : Int)⟩
def edH (x : Hvy) : Edg := ⟨x.f, x.t, x.kd, x.k⟩
/-- The list has all edges of which the count is not 0, in order, with their counts. -/
def Lists (c : Edg → Nat) (l : List Hvy) : Prop := ∃ ks : List Pk.E, Pk.Rises ks ∧ (∀ x, x ∈ ks ↔ c (ofE x) ≠ 0) ∧ l = ks.map (hvy c)
theorem Lists.one {c : Edg → Nat} {l m : List Hvy} (h1 : Lists c l) (h2 : Lists c m) : l = m := by
  obtain ⟨k1, a1, a2, rfl⟩ := h1
  obtain ⟨k2, b1, b2, rfl⟩ := h2
  rw [Pk.rises_ext a1 b1 fun x => (a2 x).trans (b2 x).symm]
theorem rises_nodup {l : List Pk.E} (h : Pk.Rises l) : l.Nodup := h.imp fun {a b} hab e => by
  rw [e, Pk.lt_irr] at hab
  cases hab
section
variable {c : Edg → Nat} {l : List Hvy}
theorem Lists.mem (h : Lists c l) {x : Hvy} (hx : x ∈ l) : x.n = ((c (edH x) : Nat) : Int) ∧ c (edH x) ≠ 0 := by
  obtain ⟨ks, _, h2, rfl⟩ := h
  obtain ⟨y, hy, rfl⟩ := List.mem_map.1 hx
  exact ⟨rfl, (h2 y).1 hy⟩
theorem Lists.has (h : Lists c l) {e : Edg} (he : c e ≠ 0) : hvy c (toE e) ∈ l := by
  obtain ⟨ks, _, h2, rfl⟩ := h
  exact List.mem_map.2 ⟨toE e, (h2 _).2 he, rfl⟩
theorem Lists.lt (h : Lists c l) {i : Nat} (h0 : 0 < i) (hi : i < l.length) : Pk.ltE (toE (edH (l.getD (i - 1) Hvy.zero))) (toE (edH (l.getD i Hvy.zero))) = true := by
  obtain ⟨ks, h1, _, rfl⟩ := h
  rw [List.length_map] at hi
  have := List.pairwise_iff_getElem.1 h1 (i - 1) i (by omega) hi (by omega)
  rw [List.getD_eq_getElem?_getD, List.getD_eq_getElem?_getD, List.getElem?_eq_getElem (by rw [List.length_map]; omega), List.getElem?_eq_getElem (by rw [List.length_map]; omega)]
  simpa [hvy, edH, toE] using this
/-- A sum of counts over some of the edges. -/
def tot (p : Hvy → Bool) (l : List Hvy) : Nat := sm (fun x => if p x = true then x.n.toNat else 0) l
theorem Lists.tot_eq (h : Lists c l) (p : Hvy → Bool) : ∃ ks : List Pk.E, ks.Nodup ∧ (∀ x, x ∈ ks ↔ c (ofE x) ≠ 0) ∧ tot p l = sm (fun x => if p (hvy c x) = true then c (ofE x) else 0) ks := by
  obtain ⟨ks, h1, h2, rfl⟩ := h
  refine ⟨ks, rises_nodup h1, h2, ?_⟩
  unfold tot
  rw [sm_map]
  rfl
end
theorem sumO_sm (nx : Int × Int → Option Int) (la : Int × Int → Int) (P : Int → Bool) (id : Int) (d : Bool) (e : Edg) : ∀ l, sumO nx la P id d l e = sm (fun o => rdE nx la P id d o e) l
  | [] => rfl
  | o :: l => by rw [sumO, sm, sumO_sm nx la P id d e l]
theorem sumT_sm (nx : Int × Int → Option Int) (la : Int × Int → Int) (P : Int → Bool) (e : Edg) : ∀ l, sumT nx la P l e = sm (fun t => sm (fun o => rdE nx la P t.id t.dn o e) t.ops) l
  | [] => rfl
  | t :: l => by rw [sumT, sm, sumT_sm nx la P e l, sumO_sm]
abbrev laF (h : Hist) (P : Int → Bool) : Int × Int → Int := fun q => ((laH P h.txs q.1 q.2 : Nat) : Int)
theorem cntE_right {h : Hist} (hr : rightH h = true) (P : Int → Bool) (e : Edg) : cntE h P e = wwF (nxH P h.ords) (fun _ => false) e + sm (fun t => sm (fun o => rdE (nxH P h.ords) (laF h P) P t.id t.dn o e) t.ops) h.txs := by
  unfold cntE
  rw [if_pos hr, sumT_sm]
theorem cntE_wrong {h : Hist} (hr : rightH h = false) (P : Int → Bool) (e : Edg) : cntE h P e = 0 := by
  unfold cntE
  rw [if_neg (by rw [hr]; simp)]
/-- What an edge with a reason is. -/
theorem cnt_some {h : Hist} {P : Int → Bool} {e : Edg} (hc : cntE h P e ≠ 0) : rightH h = true ∧ ((e.kd = 1 ∧ e.f ≠ 0 ∧ nxH P h.ords (e.f, e.k) = some e.t) ∨ ∃ t, t ∈ h.txs ∧ ∃ o, o ∈ t.ops ∧ rdC (laF h P) P t.id t.dn o = true ∧ o.k = e.k ∧ ((o.t ≠ 0 ∧ e = wrE t.id o) ∨ ∃ z, nxH P h.ords (o.t, o.k) = some z ∧ z ≠ t.id ∧ e = rwE t.id o z)) := by
  have hr : rightH h = true := by
    cases hr : rightH h with
    | true => rfl
    | false => exact absurd (cntE_wrong hr P e) hc
  refine ⟨hr, ?_⟩
  rw [cntE_right hr] at hc
  by_cases h1 : wwF (nxH P h.ords) (fun _ => false) e = 0
  · rw [h1, Nat.zero_add] at hc
    obtain ⟨t, ht, h2⟩ := sm_some hc
    obtain ⟨o, ho, h3⟩ := sm_some h2
    refine .inr ⟨t, ht, o, ho, ?_⟩
    unfold rdE at h3
    split at h3
    · rename_i hrd
      refine ⟨hrd, ?_⟩
      by_cases h4 : rdW t.id o e = 0
      · rw [h4, Nat.zero_add] at h3
        unfold rdR at h3
        split at h3
        · rename_i z hz
          split at h3
          · rename_i hh
            exact ⟨by rw [hh.2]; rfl, .inr ⟨z, hz, hh.1, hh.2⟩⟩
          · exact absurd rfl h3
        · exact absurd rfl h3
      · unfold rdW at h4
        split at h4
        · rename_i hh
          exact ⟨by rw [hh.2]; rfl, .inl hh⟩
        · exact absurd rfl h4
    · exact absurd rfl h3
  · unfold wwF at h1
    split at h1
    · rename_i hh
      exact .inl ⟨hh.1, hh.2.1, hh.2.2.1⟩
    · exact absurd rfl h1
theorem nxH_only (P : Int → Bool) {key : Int} (hP : P key = false) (a : Int) : ∀ (os : List Ordr) (F : Int × Int → Option Int), os.foldl (nxO P) F (a, key) = F (a, key)
  | [], F => rfl
  | o :: os, F => by
    rw [List.foldl_cons, nxH_only P hP a os]
    unfold nxO
    split
    · rename_i hp
      have hk : o.key ≠ key := fun e => by rw [e, hP] at hp; cases hp
      have : ∀ (l : List Int) (s : Int × (Int × Int → Option Int)), (l.foldl (nxS o.key) s).2 (a, key) = s.2 (a, key) := fun l => by
        induction l with
        | nil => intro s; rfl
        | cons x l ih =>
          intro s
          rw [List.foldl_cons, ih, nxS]
          show (if (a, key) = (s.1, o.key) then some x else s.2 (a, key)) = _
          rw [if_neg fun e => hk (congrArg Prod.snd e).symm]
      exact this _ _
    · rfl
/-- Key by key. -/
theorem cnt_key (h : Hist) (key : Int) (e : Edg) : cntE h (fun k => k == key) e = if e.k = key then cntE h (fun _ => true) e else 0 := by
  by_cases hk : e.k = key
  · rw [if_pos hk]
    cases hr : rightH h with
    | false => rw [cntE_wrong hr, cntE_wrong hr]
    | true =>
      have hnx : ∀ a k, k = key → nxH (fun k => k == key) h.ords (a, k) = nxH (fun _ => true) h.ords (a, k) := fun a k hk => by
        rw [nx_is hr (P := fun k => k == key) (by simpa using hk), nx_is hr (P := fun _ => true) rfl]
      have hla : ∀ t k, k = key → laH (fun k => k == key) h.txs t k = laH (fun _ => true) h.txs t k := fun t k hk => by
        clear hnx
        induction h.txs with
        | nil => rfl
        | cons x l ih =>
          rw [laH, laH, ih]
          unfold laT
          simp [hk]
      rw [cntE_right hr, cntE_right hr]
      congr 1
      · unfold wwF
        rw [hnx _ _ hk]
      · refine sm_congr fun t _ => sm_congr fun o _ => ?_
        by_cases hok : o.k = key
        · have e1 : rdC (laF h fun k => k == key) (fun k => k == key) t.id t.dn o = rdC (laF h fun _ => true) (fun _ => true) t.id t.dn o := by
            unfold rdC
            show (_ && (o.k == key) && decide (((laH (fun k => k == key) h.txs o.t o.k : Nat) : Int) = o.n)) = (_ && true && decide (((laH (fun _ => true) h.txs o.t o.k : Nat) : Int) = o.n))
            rw [hla _ _ hok, hok, beq_self_eq_true]
          have e2 : rdR (nxH (fun k => k == key) h.ords) t.id o e = rdR (nxH (fun _ => true) h.ords) t.id o e := by
            unfold rdR
            rw [hnx _ _ hok]
          unfold rdE
          rw [e1, e2]
        · have hw : rdW t.id o e = 0 := by
            unfold rdW wrE
            rw [if_neg]
            rintro ⟨_, rfl⟩
            exact hok hk
          have hrr : ∀ nx, rdR nx t.id o e = 0 := fun nx => by
            unfold rdR rwE
            split
            · rw [if_neg]
              rintro ⟨_, rfl⟩
              exact hok hk
            · rfl
          unfold rdE
          rw [hw, hrr, hrr]
          simp
  · rw [if_neg hk]
    apply Classical.byContradiction
    intro hc
    obtain ⟨hr, h1⟩ := cnt_some hc
    rcases h1 with ⟨_, _, hn⟩ | ⟨t, _, o, _, hrd, hok, _⟩
    · unfold nxH at hn
      rw [nxH_only (fun k => k == key) (by simpa using hk)] at hn
      cases hn
    · unfold rdC at hrd
      simp only [Bool.and_eq_true] at hrd
      have := hrd.1.2
      rw [hok] at this
      simp [hk] at this
theorem Lists.key {h : Hist} {l m : List Hvy} {key : Int} (h1 : Lists (cntE h (fun _ => true)) l) (h2 : Lists (cntE h (fun k => k == key)) m) : m = l.filter fun x => x.k == key := by
  refine h2.one ?_
  obtain ⟨ks, a1, a2, rfl⟩ := h1
  refine ⟨ks.filter (fun x => x.2.2.2 == key), a1.filter _, fun x => ?_, ?_⟩
  · rw [List.mem_filter, a2, cnt_key]
    have : (ofE x).k = x.2.2.2 := rfl
    rw [this]
    by_cases hk : x.2.2.2 = key <;> simp [hk]
  · rw [List.filter_map]
    show (ks.filter _).map _ = _
    refine List.map_congr_left fun x hx => ?_
    have hk := (List.mem_filter.1 hx).2
    unfold hvy
    have hk : x.2.2.2 = key := by simpa [hvy] using hk
    rw [cnt_key, if_pos (show (ofE x).k = key from hk)]
end Go.Proofs.YtcmafmdcgkpagaaGreat.Dg
namespace Go.Proofs.YtcmafmdcgkpagaaGreat.Dg
open Go.ChangeShapes Go.WideShapes Go.ChangeAt Go.RowKit Base F Tx Hi
open Pk (OwnE)
def PlP (l : List Hvy) (w : World) (e : Ending) (w' : World) : Prop := ∃ v, e = .returned v ∧ OwnE w.heap.size w' v (l.map fun x => toE (edH x)) ∧ Aft w w'
set_option maxRecDepth 100000 in
set_option maxHeartbeats 4000000 in
theorem plain_any {base : Nat} {v : Value} {l : List Hvy} (w : World) (h : Hvys base w v l) (hl : l.length ≤ 1000000) : Calls Tryz.prog 14 #[v] w (PlP l w) := by
  obtain ⟨p, c, rfl, _, hc⟩ := h.open_
  have HC := Lib.hid hc
  have HE : Hid (∀ u W, OwnE w.heap.size W u (l.map fun x => toE (edH x)) → Aft w W → PlP l w (.returned u) W) := Lib.hid fun u W h1 h2 => ⟨u, rfl, h1, h2⟩
  generalize PlP l w = Post at HE ⊢
  obtain ⟨n, hn⟩ : ∃ n, n = l.length := ⟨_, rfl⟩
  have HN := Lib.hid hn
  rw [← hn] at HC hl ⊢
  clear h hc hn
  go_enter Tryz.func14, Tryz.ntmps14
  go_wp2_with fail
  go_loopw [3, 8] (fun s3 s8 wr => ∃ k : Nat, s8 = .int .i64 (k : Int) ∧ k ≤ n ∧ ∃ u, u = s3 ∧ Hid (OwnE w.heap.size wr u ((l.take k).map fun x => toE (edH x)) ∧ Aft w wr)) (fun _ s8 _ => n - (intOf s8).toNat)
  case atStart => exact ⟨0, rfl, Nat.zero_le _, _, rfl, Lib.hid ⟨OwnE.nil _ _, Aft.refl _⟩⟩
  case round =>
    obtain ⟨k, rfl, hk, u, hu, HS⟩ := hrel
    subst hu
    obtain ⟨wA, hwA⟩ : ∃ wA, wA = wr := ⟨_, rfl⟩
    subst hwA
    by_cases hlt : k < n
    · obtain ⟨g, o, rfl, _, hg, c0, c1, c2, c3, c4⟩ := HC.out k hlt
      have ha := HS.out.2
      have c0 := ha.cell hg c0
      have c1 := ha.cell hg c1
      have c2 := ha.cell hg c2
      have c3 := ha.cell hg c3
      have c4 := ha.cell hg c4
      have hg := Nat.lt_of_lt_of_le hg ha.size
      have hkI : (k : Int) < (n : Int) := by omega
      have HT : Hid ((l.take (k + 1)).map (fun x => toE (edH x)) = (l.take k).map (fun x => toE (edH x)) ++ [toE (edH (l.getD k Hvy.zero))]) := Lib.hid (by rw [Tx.take_snoc l Hvy.zero k (by have := HN.out; omega), List.map_append]; rfl)
      have HLN : Hid (((l.take k).map fun x => toE (edH x)).length ≤ 1000000) := Lib.hid (by rw [List.length_map, List.length_take]; omega)
      generalize l.getD k Hvy.zero = x at c0 c1 c2 c3 c4 HT
      obtain ⟨x0, x1, x2, x3, x4⟩ := x
      dsimp only at c0 c1 c2 c3 c4
      have HT : Hid ((l.take (k + 1)).map (fun x => toE (edH x)) = (l.take k).map (fun x => toE (edH x)) ++ [(x0, x1, x2, x3)]) := HT
      obtain ⟨X, hX⟩ : ∃ X, X = wA.alloc (.cells #[.int .i64 x0, .int .i64 x1, .int .i64 x2, .int .i64 x3, .int .i64 x4] 48) := ⟨_, rfl⟩
      have hxb : X.heap[wA.heap.size]? = some (.cells #[.int .i64 x0, .int .i64 x1, .int .i64 x2, .int .i64 x3, .int .i64 x4] 48) := by rw [hX]; exact heap_alloc_at _ _ _ rfl
      have hax : Aft wA X := by rw [hX]; exact Aft.one _
      have HO : Hid (OwnE w.heap.size X u ((l.take k).map fun x => toE (edH x)) ∧ Aft w X) := Lib.hid ⟨HS.out.1.below hax, ha.trans hax⟩
      have d : X.cell? ⟨wA.heap.size, 0, none⟩ = some (.int .i64 x0) ∧ X.cell? ⟨wA.heap.size, 1, none⟩ = some (.int .i64 x1) ∧ X.cell? ⟨wA.heap.size, 2, none⟩ = some (.int .i64 x2) ∧ X.cell? ⟨wA.heap.size, 3, none⟩ = some (.int .i64 x3) := by simp [World.cell?, hxb]
      obtain ⟨d0, d1, d2, d3⟩ := d
      have hxl := heap_lt hxb
      clear ha hxb hax HS
      go_upto_region 5 with fail
      rw [← hX]
      clear hX c0 c1 c2 c3 c4
      go_wp2_with (at_builtin; refine Pk.append_edge rfl (.tmp 12) (.tmp 15) rfl (z := (x0, x1, x2, x3)) (w0 := w) HO.out.2 HO.out.1 rfl rfl rfl HLN.out ?_; intro v5 w5 h5 hb5 _; have HR : Hid (OwnE w.heap.size w5 v5 ((l.take (k + 1)).map fun x => toE (edH x)) ∧ Aft w w5) := Lib.hid ⟨by rw [HT.out]; exact h5, hb5⟩; clear h5 hb5)
      go_roundw
      case rel => exact ⟨k + 1, by go_num, by omega, _, rfl, HR⟩
      case measure => simp [intOf]; omega
    · have hke : k = n := by omega
      have HF : Hid (Post (.returned u) wA) := Lib.hid (HE.out _ _ (by have := HS.out.1; rwa [hke, HN.out, List.take_length] at this) HS.out.2)
      clear HS hke
      go_wp2_with fail
      exact HF.out
end Go.Proofs.YtcmafmdcgkpagaaGreat.Dg
namespace Go.Proofs.YtcmafmdcgkpagaaGreat.Dg
open F Tx Hi Off
theorem chain_mem : ∀ (l : List Int) (a0 a b : Int), chain a0 l a = some b → (a = a0 ∨ a ∈ l) ∧ b ∈ l
  | [], _, _, _, h => by cases h
  | x :: l, a0, a, b, h => by
    rw [chain] at h
    split at h
    · rename_i e
      injection h with h
      exact ⟨.inl e, by rw [← h]; exact List.mem_cons_self⟩
    · obtain ⟨h1, h2⟩ := chain_mem l x a b h
      refine ⟨.inr ?_, List.mem_cons_of_mem _ h2⟩
      rcases h1 with e | h1
      · rw [e]; exact List.mem_cons_self
      · exact List.mem_cons_of_mem _ h1
theorem chain_ne : ∀ (l : List Int) (a0 a b : Int), (a0 :: l).Nodup → chain a0 l a = some b → a ≠ b
  | [], _, _, _, _, h => by cases h
  | x :: l, a0, a, b, hn, h => by
    obtain ⟨h0, h1⟩ := List.nodup_cons.1 hn
    rw [chain] at h
    split at h
    · rename_i e
      injection h with h
      intro e2
      exact h0 (by rw [← e, e2, ← h]; exact List.mem_cons_self)
    · exact chain_ne l x a b h1 h
theorem nx_ch {h : Hist} (hr : rightH h = true) {P : Int → Bool} {key : Int} (hP : P key = true) (a : Int) : nxH P h.ords (a, key) = chain 0 (ordL h.ords key) a := by
  unfold nxH
  rw [nxH_chain P hP a h.ords _ (right_keys hr) fun o ho => (right_order hr ho).1]
  cases chain 0 (ordL h.ords key) a <;> rfl
/-- Who is next is one of an order of that key. -/
theorem nx_some {h : Hist} (hr : rightH h = true) {P : Int → Bool} {key a b : Int} (hn : nxH P h.ords (a, key) = some b) : ∃ o, o ∈ h.ords ∧ o.key = key ∧ chain 0 o.txs a = some b := by
  cases hP : P key with
  | false =>
    unfold nxH at hn
    rw [nxH_only P hP] at hn
    cases hn
  | true =>
    rw [nx_ch hr hP] at hn
    obtain ⟨_, hb⟩ := chain_mem _ _ _ _ hn
    obtain ⟨o, h1, h2, h3⟩ := ordL_mem hb
    exact ⟨o, h1, h2, by rw [← h3]; exact hn⟩
theorem nx_end {h : Hist} (hr : rightH h = true) {P : Int → Bool} {key a b : Int} (hn : nxH P h.ords (a, key) = some b) : a ≠ b ∧ (∃ t, findT h.txs b = some t ∧ t.dn = true ∧ 0 < wrN t.ops key) ∧ (a ≠ 0 → ∃ t, findT h.txs a = some t ∧ t.dn = true ∧ 0 < wrN t.ops key) := by
  obtain ⟨o, ho, hk, hc⟩ := nx_some hr hn
  obtain ⟨h1, h2⟩ := right_order hr ho
  obtain ⟨h3, h4⟩ := chain_mem _ _ _ _ hc
  subst hk
  refine ⟨chain_ne _ _ _ _ h1 hc, h2 b h4, fun h0 => ?_⟩
  rcases h3 with e | h3
  · exact absurd e h0
  · exact h2 a h3
theorem read_one {h : Hist} (hr : rightH h = true) {t : Txn} (ht : t ∈ h.txs) {o : Opr} (ho : o ∈ t.ops) (hrd : o.rd = true) (h0 : o.t ≠ 0) (h1 : o.t ≠ t.id) : 1 ≤ o.n := by
  obtain ⟨_, h2, _, _, _⟩ := right_iff.1 hr
  have hm : (⟨o.t, o.k, o.n⟩ : Ver) ∈ needsL t.id t.ops := needs_has t.ops [] ho hrd h0 h1
  exact (needs_bd (h2 t ht) hm).2
theorem rdC_iff {la : Int × Int → Int} {P : Int → Bool} {id : Int} {d : Bool} {o : Opr} : rdC la P id d o = true ↔ d = true ∧ o.rd = true ∧ o.t ≠ id ∧ P o.k = true ∧ la (o.t, o.k) = o.n := by
  unfold rdC
  simp only [Bool.and_eq_true, decide_eq_true_eq]
  constructor
  · rintro ⟨⟨⟨⟨a, b⟩, c⟩, d⟩, e⟩; exact ⟨a, b, c, d, e⟩
  · rintro ⟨a, b, c, d, e⟩; exact ⟨⟨⟨⟨a, b⟩, c⟩, d⟩, e⟩
theorem la_some {h : Hist} (hr : rightH h = true) {P : Int → Bool} {t k n : Int} (hn : laF h P (t, k) = n) (h1 : 1 ≤ n) : ∃ u, findT h.txs t = some u ∧ u.dn = true ∧ n = ((wrN u.ops k : Nat) : Int) := by
  obtain ⟨_, _, hp, _⟩ := right_iff.1 hr
  have hn : ((laH P h.txs t k : Nat) : Int) = n := hn
  cases hf : findT h.txs t with
  | none =>
    rw [laH_none P _ _ _ hf] at hn
    omega
  | some u =>
    rw [laH_some P _ _ _ _ hp hf] at hn
    unfold laT at hn
    split at hn
    · rename_i hd
      rw [Bool.and_eq_true] at hd
      exact ⟨u, rfl, hd.1, hn.symm⟩
    · omega
/-- An edge with a reason joins two that are done. -/
theorem cnt_ends {h : Hist} {P : Int → Bool} {e : Edg} (hc : cntE h P e ≠ 0) : ∃ a b, findT h.txs e.f = some a ∧ findT h.txs e.t = some b ∧ a.dn = true ∧ b.dn = true ∧ e.f ≠ e.t := by
  obtain ⟨hr, h1⟩ := cnt_some hc
  obtain ⟨_, _, hp, _⟩ := right_iff.1 hr
  rcases h1 with ⟨_, h0, hn⟩ | ⟨t, ht, o, ho, hrd, hok, h2⟩
  · obtain ⟨h3, ⟨b, hb, hbd, _⟩, h4⟩ := nx_end hr hn
    obtain ⟨a, ha, had, _⟩ := h4 h0
    exact ⟨a, b, ha, hb, had, hbd, h3⟩
  · obtain ⟨hd, hr1, hne, _, hla⟩ := rdC_iff.1 hrd
    rcases h2 with ⟨h0, rfl⟩ | ⟨z, hz, hzi, rfl⟩
    · obtain ⟨u, hu, hud, _⟩ := la_some hr hla (read_one hr ht ho hr1 h0 hne)
      exact ⟨u, t, hu, findT_in hp ht, hud, hd, hne⟩
    · obtain ⟨_, ⟨b, hb, hbd, _⟩, _⟩ := nx_end hr hz
      exact ⟨t, b, findT_in hp ht, hb, hd, hbd, fun e => hzi e.symm⟩
/-- Whether a read is of what was there at first, or of an installed version. -/
def lastB (h : Hist) (o : Opr) : Bool := if o.t = 0 then true else match findT h.txs o.t with
  | some u => u.dn && decide (o.n = ((wrN u.ops o.k : Nat) : Int))
  | none => false
theorem la_last {h : Hist} (hr : rightH h = true) {t : Txn} (ht : t ∈ h.txs) {o : Opr} (ho : o ∈ t.ops) (hrd : o.rd = true) (h0 : o.t ≠ 0) (h1 : o.t ≠ t.id) : decide (laF h (fun _ => true) (o.t, o.k) = o.n) = lastB h o := by
  obtain ⟨_, _, hp, _⟩ := right_iff.1 hr
  have hn := read_one hr ht ho hrd h0 h1
  unfold lastB
  rw [if_neg h0]
  cases hf : findT h.txs o.t with
  | none =>
    have : laF h (fun _ => true) (o.t, o.k) = 0 := by
      show ((laH _ _ _ _ : Nat) : Int) = 0
      rw [laH_none _ _ _ _ hf]
      rfl
    rw [this]
    exact decide_eq_false (by omega)
  | some u =>
    have : laF h (fun _ => true) (o.t, o.k) = ((laT (fun _ => true) u.dn u.ops o.k : Nat) : Int) := by
      show ((laH _ _ _ _ : Nat) : Int) = _
      rw [laH_some _ _ _ _ _ hp hf]
    rw [this]
    show decide (((laT (fun _ => true) u.dn u.ops o.k : Nat) : Int) = o.n) = (u.dn && decide (o.n = ((wrN u.ops o.k : Nat) : Int)))
    unfold laT
    cases hd : u.dn with
    | false =>
      simp only [Bool.false_and, Bool.false_eq_true, if_false]
      exact decide_eq_false (by omega)
    | true =>
      simp only [Bool.true_and, if_true]
      rw [Bool.eq_iff_iff, decide_eq_true_iff, decide_eq_true_iff]
      exact ⟨fun e => e.symm, fun e => e.symm⟩
theorem sm_id {xs : List Txn} (hp : xs.Pairwise (fun a b => a.id < b.id)) (K : Txn → Nat) {t : Txn} (ht : t ∈ xs) : sm (fun x => if x.id = t.id then K x else 0) xs = K t := by
  induction xs with
  | nil => cases ht
  | cons x l ih =>
    obtain ⟨h1, h2⟩ := List.pairwise_cons.1 hp
    rw [sm]
    rcases List.mem_cons.1 ht with e | ht
    · subst e
      rw [if_pos rfl, sm_congr (g := fun _ => 0), sm_zero, Nat.add_zero]
      intro y hy
      have := h1 y hy
      rw [if_neg (by omega)]
    · have := h1 t ht
      rw [if_neg (by omega), ih h2 ht, Nat.zero_add]
/-- The reads of others' installed versions. -/
def rdsB (h : Hist) (t : Txn) (o : Opr) : Bool := t.dn && o.rd && decide (o.t ≠ 0) && decide (o.t ≠ t.id) && lastB h o
def isWR (id : Int) (x : Hvy) : Bool := decide (x.kd = 2) && decide (x.t = id)
theorem reads_sum {h : Hist} (hr : rightH h = true) {l : List Hvy} (hl : Lists (cntE h (fun _ => true)) l) {t : Txn} (ht : t ∈ h.txs) : tot (isWR t.id) l = (t.ops.filter (rdsB h t)).length := by
  obtain ⟨_, _, hp, _⟩ := right_iff.1 hr
  obtain ⟨ks, hn, hm, he⟩ := hl.tot_eq (isWR t.id)
  rw [he]
  generalize hnx : nxH (fun _ => true) h.ords = nx
  have hcnt : ∀ e, cntE h (fun _ => true) e = wwF nx (fun _ => false) e + sm (fun t => sm (fun o => rdE nx (laF h (fun _ => true)) (fun _ => true) t.id t.dn o e) t.ops) h.txs := fun e => by rw [cntE_right hr, hnx]
  have hq : ∀ c x, isWR t.id (hvy c x) = true ↔ (ofE x).kd = 2 ∧ (ofE x).t = t.id := fun c x => by
    unfold isWR hvy ofE
    simp
  have h1 : ∀ x, (if isWR t.id (hvy (cntE h (fun _ => true)) x) = true then cntE h (fun _ => true) (ofE x) else 0) = sm (fun t' => sm (fun o => if (ofE x).kd = 2 ∧ (ofE x).t = t.id then rdE nx (laF h (fun _ => true)) (fun _ => true) t'.id t'.dn o (ofE x) else 0) t'.ops) h.txs := fun x => by
    by_cases hx : (ofE x).kd = 2 ∧ (ofE x).t = t.id
    · rw [if_pos ((hq _ _).2 hx), hcnt]
      have hw : wwF nx (fun _ => false) (ofE x) = 0 := by
        unfold wwF
        rw [if_neg (fun hh => by have := hh.1; have := hx.1; omega)]
      rw [hw, Nat.zero_add]
      refine sm_congr fun t' _ => sm_congr fun o _ => ?_
      rw [if_pos hx]
    · rw [if_neg (fun hh => hx ((hq _ _).1 hh)), sm_congr (g := fun _ => 0), sm_zero]
      intro t' _
      rw [sm_congr (g := fun _ => 0), sm_zero]
      intro o _
      rw [if_neg hx]
  rw [sm_congr fun x _ => h1 x, sm_comm]
  have h2 : ∀ t' ∈ h.txs, sm (fun x => sm (fun o => if (ofE x).kd = 2 ∧ (ofE x).t = t.id then rdE nx (laF h (fun _ => true)) (fun _ => true) t'.id t'.dn o (ofE x) else 0) t'.ops) ks = if t'.id = t.id then (t'.ops.filter (rdsB h t')).length else 0 := fun t' ht' => by
    rw [sm_comm]
    have h3 : ∀ o ∈ t'.ops, sm (fun x => if (ofE x).kd = 2 ∧ (ofE x).t = t.id then rdE nx (laF h (fun _ => true)) (fun _ => true) t'.id t'.dn o (ofE x) else 0) ks = if t'.id = t.id ∧ rdsB h t' o = true then 1 else 0 := fun o ho => by
      by_cases hrc : rdC (laF h (fun _ => true)) (fun _ => true) t'.id t'.dn o = true
      · obtain ⟨hd, hrd, hne, _, hla⟩ := rdC_iff.1 hrc
        by_cases h0 : o.t = 0
        · rw [sm_congr (g := fun _ => 0), sm_zero, if_neg]
          · rintro ⟨_, hb⟩
            unfold rdsB at hb
            simp [h0] at hb
          · intro x _
            split
            · rename_i hx
              unfold rdE rdW rdR
              rw [if_pos hrc, if_neg (fun hh => hh.1 h0)]
              split
              · rw [if_neg (fun hh => by have := congrArg Edg.kd hh.2; have h3 : (ofE x).kd = 3 := this; have := hx.1; omega)]
              · rfl
            · rfl
        · have hlb : lastB h o = true := by rw [← la_last hr ht' ho hrd h0 hne]; exact decide_eq_true hla
          have hb : rdsB h t' o = true := by unfold rdsB; simp [hd, hrd, h0, hne, hlb]
          by_cases hi : t'.id = t.id
          · rw [if_pos ⟨hi, hb⟩]
            have hin : toE (wrE t'.id o) ∈ ks := by
              rw [hm, ofE_toE, hcnt]
              have h4 := sm_pos (f := fun t => sm (fun o' => rdE nx (laF h (fun _ => true)) (fun _ => true) t.id t.dn o' (wrE t'.id o)) t.ops) ht'
              have h5 := sm_pos (f := fun o' => rdE nx (laF h (fun _ => true)) (fun _ => true) t'.id t'.dn o' (wrE t'.id o)) ho
              have h6 : 1 ≤ rdE nx (laF h (fun _ => true)) (fun _ => true) t'.id t'.dn o (wrE t'.id o) := by
                unfold rdE rdW
                rw [if_pos hrc, if_pos ⟨h0, rfl⟩]
                omega
              simp only at h4 h5
              omega
            rw [← sm_one _ ks hn hin]
            refine sm_congr fun x _ => ?_
            by_cases hx : x = toE (wrE t'.id o)
            · subst hx
              rw [if_pos rfl, ofE_toE, if_pos ⟨rfl, hi⟩]
              unfold rdE rdW rdR
              rw [if_pos hrc, if_pos ⟨h0, rfl⟩]
              split
              · rw [if_neg (fun hh => by have := congrArg Edg.kd hh.2; have h3 : (2 : Int) = 3 := this; omega)]
              · rfl
            · rw [if_neg hx]
              split
              · rename_i hxx
                unfold rdE rdW rdR
                rw [if_pos hrc, if_neg (fun hh => hx (by rw [← toE_ofE x, hh.2]))]
                split
                · rw [if_neg (fun hh => by have := congrArg Edg.kd hh.2; have h3 : (ofE x).kd = 3 := this; have := hxx.1; omega)]
                · rfl
              · rfl
          · rw [if_neg (fun hh => hi hh.1), sm_congr (g := fun _ => 0), sm_zero]
            intro x _
            split
            · rename_i hxx
              unfold rdE rdW rdR
              rw [if_pos hrc, if_neg (fun hh => hi (by have := congrArg Edg.t hh.2; have h3 : (ofE x).t = t'.id := this; rw [← h3]; exact hxx.2))]
              split
              · rw [if_neg (fun hh => by have := congrArg Edg.kd hh.2; have h3 : (ofE x).kd = 3 := this; have := hxx.1; omega)]
              · rfl
            · rfl
      · rw [sm_congr (g := fun _ => 0), sm_zero, if_neg]
        · rintro ⟨_, hb⟩
          unfold rdsB at hb
          simp only [Bool.and_eq_true, decide_eq_true_eq] at hb
          obtain ⟨⟨⟨⟨hd, hrd⟩, h0⟩, hne⟩, hlb⟩ := hb
          rw [← la_last hr ht' ho hrd h0 hne, decide_eq_true_iff] at hlb
          exact hrc (rdC_iff.2 ⟨hd, hrd, hne, rfl, hlb⟩)
        · intro x _
          split
          · unfold rdE
            rw [if_neg hrc]
          · rfl
    rw [sm_congr h3]
    by_cases hi : t'.id = t.id
    · rw [if_pos hi, sm_filter]
      exact sm_congr fun o _ => by simp [hi]
    · rw [if_neg hi, sm_congr (g := fun _ => 0), sm_zero]
      intro o _
      rw [if_neg (fun hh => hi hh.1)]
  rw [sm_congr h2, sm_id hp (fun t' => (t'.ops.filter (rdsB h t')).length) ht]
/-- Pairs of neighbours. -/
def prs : Int → List Int → List (Int × Int)
  | _, [] => []
  | x, y :: l => (x, y) :: prs y l
theorem prs_len : ∀ (l : List Int) (x : Int), (prs x l).length = l.length
  | [], _ => rfl
  | y :: l, x => by rw [prs, List.length_cons, prs_len l y, List.length_cons]
theorem prs_fst : ∀ (l : List Int) (x : Int) (p : Int × Int), p ∈ prs x l → p.1 ∈ x :: l
  | y :: l, x, p, h => by
    rw [prs] at h
    rcases List.mem_cons.1 h with rfl | h
    · exact List.mem_cons_self
    · exact List.mem_cons_of_mem _ (prs_fst l y p h)
theorem prs_chain : ∀ (l : List Int) (x a b : Int), (x :: l).Nodup → (if chain x l a = some b then 1 else 0) = sm (fun p => if a = p.1 ∧ b = p.2 then 1 else 0) (prs x l)
  | [], x, a, b, _ => by rw [chain, if_neg (by simp)]; rfl
  | y :: l, x, a, b, hn => by
    obtain ⟨h0, h1⟩ := List.nodup_cons.1 hn
    rw [prs, sm, chain]
    by_cases hx : a = x
    · rw [if_pos hx, sm_congr (g := fun _ => 0), sm_zero]
      · by_cases hb : b = y
        · simp [hx, hb]
        · have hb2 : ¬ y = b := fun e => hb e.symm
          simp [hb, hb2]
      · intro p hp
        rw [if_neg]
        rintro ⟨e, _⟩
        exact h0 (by rw [← hx, e]; exact prs_fst l y p hp)
    · rw [if_neg hx, if_neg (show ¬ (a = (x, y).1 ∧ b = (x, y).2) from fun hh => hx hh.1), Nat.zero_add]
      exact prs_chain l y a b h1
theorem ordL_of : ∀ {os : List Ordr} {o : Ordr}, os.Pairwise (fun x y => x.key ≠ y.key) → o ∈ os → ordL os o.key = o.txs
  | y :: l, o, hk, ho => by
    obtain ⟨h1, h2⟩ := List.pairwise_cons.1 hk
    rw [ordL]
    rcases List.mem_cons.1 ho with e | ho
    · rw [if_pos (by rw [e]), e]
    · rw [if_neg (h1 o ho)]
      exact ordL_of h2 ho
def isWW (key : Int) (x : Hvy) : Bool := decide (x.kd = 1) && decide (x.k = key)
/-- One edge less than an order is long. -/
theorem ww_sum {h : Hist} (hr : rightH h = true) {l : List Hvy} (hl : Lists (cntE h (fun _ => true)) l) {o : Ordr} (ho : o ∈ h.ords) : 1 + tot (isWW o.key) l = o.txs.length := by
  obtain ⟨ks, hn, hm, he⟩ := hl.tot_eq (isWW o.key)
  rw [he]
  obtain ⟨hnd, hdn⟩ := right_order hr ho
  obtain ⟨h00, hnd1⟩ := List.nodup_cons.1 hnd
  -- the order is not empty
  have hne : o.txs ≠ [] := by
    obtain ⟨_, _, h3, _, h5, h6⟩ := right_iff.1 hr
    have hk : o.key ∈ KW h.txs := by rw [← h5]; exact List.mem_map.2 ⟨o, ho, rfl⟩
    have hpm : o.txs.Perm (wrsL h.txs o.key) := of_decide_eq_true (h6 o ho)
    unfold KW at hk
    rw [mem_keysL] at hk
    unfold allK at hk
    obtain ⟨t, ht, hk⟩ := List.mem_flatMap.1 hk
    split at hk
    · rename_i hd
      obtain ⟨q, hq, hqk⟩ := List.mem_map.1 hk
      have hw : 0 < wrN t.ops o.key := by
        unfold bareL at hq
        obtain ⟨hq1, hq2⟩ := List.mem_filter.1 hq
        unfold wrN
        exact List.countP_pos_iff.2 ⟨q, hq1, by simpa [hqk] using hq2⟩
      have : t.id ∈ wrsL h.txs o.key := by
        unfold wrsL
        exact List.mem_map.2 ⟨t, List.mem_filter.2 ⟨ht, by simp [hd, hw]⟩, rfl⟩
      intro e
      rw [e] at hpm
      have := hpm.mem_iff.2 this
      cases this
    · cases hk
  obtain ⟨x0, xs, hxs⟩ : ∃ x0 xs, o.txs = x0 :: xs := by
    cases hc : o.txs with
    | nil => exact absurd hc hne
    | cons a b => exact ⟨a, b, rfl⟩
  have hox : ∀ a, chain 0 (ordL h.ords o.key) a = chain 0 (x0 :: xs) a := fun a => by
    have : ordL h.ords o.key = x0 :: xs := by
      rw [← hxs]
      exact ordL_of (right_keys hr) ho
    rw [this]
  have hww : ∀ x : Pk.E, (if isWW o.key (hvy (cntE h (fun _ => true)) x) = true then cntE h (fun _ => true) (ofE x) else 0) = sm (fun p => if x = toE ⟨p.1, p.2, 1, o.key⟩ then 1 else 0) (prs x0 xs) := fun x => by
    by_cases hx : (ofE x).kd = 1 ∧ (ofE x).k = o.key
    · have hb : isWW o.key (hvy (cntE h (fun _ => true)) x) = true := by
        unfold isWW hvy
        have h1 : x.2.2.1 = 1 := hx.1
        have h2 : x.2.2.2 = o.key := hx.2
        simp [h1, h2]
      rw [if_pos hb, cntE_right hr]
      have hz : sm (fun t => sm (fun o => rdE (nxH (fun _ => true) h.ords) (laF h (fun _ => true)) (fun _ => true) t.id t.dn o (ofE x)) t.ops) h.txs = 0 := by
        rw [sm_congr (g := fun _ => 0), sm_zero]
        intro t _
        rw [sm_congr (g := fun _ => 0), sm_zero]
        intro o' _
        unfold rdE rdW rdR
        split
        · rw [if_neg (fun hh => by have := congrArg Edg.kd hh.2; have h3 : (ofE x).kd = 2 := this; have := hx.1; omega)]
          split
          · rw [if_neg (fun hh => by have := congrArg Edg.kd hh.2; have h3 : (ofE x).kd = 3 := this; have := hx.1; omega)]
          · rfl
        · rfl
      rw [hz, Nat.add_zero]
      unfold wwF
      rw [hx.2, nx_ch hr rfl, hox, chain]
      have hpc := prs_chain xs x0 (ofE x).f (ofE x).t (by rw [← hxs]; exact hnd1)
      have hre : ∀ p : Int × Int, (x = toE ⟨p.1, p.2, 1, o.key⟩) ↔ ((ofE x).f = p.1 ∧ (ofE x).t = p.2) := fun p => by
        obtain ⟨a, b, c, d⟩ := x
        unfold ofE at hx ⊢
        unfold toE
        simp only at hx ⊢
        constructor
        · intro e
          injection e with e1 e
          injection e with e2 _
          exact ⟨e1, e2⟩
        · rintro ⟨rfl, rfl⟩
          rw [hx.1, hx.2]
      rw [sm_congr (g := fun p : Int × Int => if (ofE x).f = p.1 ∧ (ofE x).t = p.2 then 1 else 0) (fun p _ => by simp only [hre p])]
      rw [← hpc]
      by_cases hf : (ofE x).f = 0
      · rw [if_neg (fun hh => hh.2.1 hf), if_neg]
        intro hh
        obtain ⟨h3, _⟩ := chain_mem _ _ _ _ hh
        refine h00 ?_
        rw [hxs, ← hf]
        rcases h3 with e | h3
        · rw [e]; exact List.mem_cons_self
        · exact List.mem_cons_of_mem _ h3
      · rw [if_neg hf]
        by_cases hch : chain x0 xs (ofE x).f = some (ofE x).t
        · rw [if_pos ⟨hx.1, hf, hch, rfl⟩, if_pos hch]
        · rw [if_neg (fun hh => hch hh.2.2.1), if_neg hch]
    · have hb : ¬ isWW o.key (hvy (cntE h (fun _ => true)) x) = true := by
        intro hb
        unfold isWW hvy at hb
        simp only [Bool.and_eq_true, decide_eq_true_eq] at hb
        exact hx hb
      rw [if_neg hb, sm_congr (g := fun _ => 0), sm_zero]
      intro p _
      rw [if_neg]
      rintro rfl
      exact hx ⟨rfl, rfl⟩
  rw [sm_congr fun x _ => hww x, sm_comm, sm_congr (g := fun _ => 1), sm_length, prs_len, hxs, List.length_cons]
  · omega
  · intro p hp
    refine sm_one _ ks hn ((hm _).2 fun h0 => ?_)
    have h1 := hww (toE ⟨p.1, p.2, 1, o.key⟩)
    rw [h0] at h1
    have h2 := sm_pos (f := fun q : Int × Int => if toE ⟨p.1, p.2, 1, o.key⟩ = toE ⟨q.1, q.2, 1, o.key⟩ then 1 else 0) hp
    simp only [if_pos] at h2
    rw [← h1] at h2
    split at h2 <;> omega
theorem findT_mem : ∀ {xs : List Txn} {id : Int} {t : Txn}, findT xs id = some t → t ∈ xs
  | x :: l, id, t, h => by
    unfold findT at h
    split at h
    · injection h with h
      rw [h]; exact List.mem_cons_self
    · exact List.mem_cons_of_mem _ (findT_mem h)
/-- Each edge's key is one that an operation has. -/
theorem cnt_keyop {h : Hist} {P : Int → Bool} {e : Edg} (hc : cntE h P e ≠ 0) : ∃ t, t ∈ h.txs ∧ ∃ o, o ∈ t.ops ∧ o.k = e.k := by
  obtain ⟨hr, h1⟩ := cnt_some hc
  rcases h1 with ⟨_, h0, hn⟩ | ⟨t, ht, o, ho, _, hok, _⟩
  · obtain ⟨_, ⟨b, hb, _, hw⟩, _⟩ := nx_end hr hn
    unfold wrN at hw
    obtain ⟨q, h2, h3⟩ := List.countP_pos_iff.1 hw
    refine ⟨b, ?_, q, h2, ?_⟩
    · exact findT_mem hb
    · simp at h3
      exact h3.2
  · exact ⟨t, ht, o, ho, hok⟩
/-- Key by key the edges are all. -/
theorem parts_sum {l : List Hvy} {met : List Int} (hn : met.Nodup) (h : ∀ x ∈ l, x.k ∈ met) : sm (fun k => (l.filter fun x => x.k == k).length) met = l.length := by
  rw [sm_congr (g := fun k => sm (fun x : Hvy => if x.k = k then 1 else 0) l), sm_comm, sm_congr (g := fun _ => 1), sm_length]
  · intro x hx
    show sm (fun k => if x.k = k then 1 else 0) met = 1
    rw [sm_congr (g := fun k => if k = x.k then 1 else 0), sm_one x.k met hn (h x hx)]
    intro k _
    by_cases hk : x.k = k
    · rw [if_pos hk, if_pos hk.symm]
    · rw [if_neg hk, if_neg (fun e => hk e.symm)]
  · intro k _
    rw [sm_filter]
    refine sm_congr fun x _ => ?_
    by_cases hk : x.k = k <;> simp [hk]
end Go.Proofs.YtcmafmdcgkpagaaGreat.Dg
namespace Go.Proofs.YtcmafmdcgkpagaaGreat.Dg
open F Tx Hi Off
/-- The reads that are reasons of the second kind, of the third kind. -/
def p2 (a : Txn) (e : Edg) (o : Opr) : Bool := o.rd && decide (o.k = e.k) && decide (o.t = e.f) && decide (o.n = ((wrN a.ops e.k : Nat) : Int))
def nxB (h : Hist) (k x z : Int) : Bool := Om.nextB (ordL h.ords k) x && decide (Om.nextV (ordL h.ords k) x = z)
def p3 (h : Hist) (id : Int) (e : Edg) (o : Opr) : Bool := o.rd && decide (o.k = e.k) && decide (o.t ≠ id) && lastB h o && nxB h e.k o.t e.t
/-- The document's count, of two that are there and done. -/
def refN (h : Hist) (a b : Txn) (e : Edg) : Nat := if e.kd = 1 then (if nxB h e.k e.f e.t = true then 1 else 0) else if e.kd = 2 then (b.ops.filter (p2 a e)).length else if e.kd = 3 then (a.ops.filter (p3 h a.id e)).length else 0
def refC (h : Hist) (e : Edg) : Nat := match findT h.txs e.f, findT h.txs e.t with
  | some a, some b => if a.dn = true ∧ b.dn = true ∧ e.f ≠ e.t then refN h a b e else 0
  | _, _ => 0
theorem findT_mem' : ∀ {xs : List Txn} {id : Int} {t : Txn}, findT xs id = some t → t ∈ xs ∧ t.id = id
  | x :: l, id, t, h => by
    unfold findT at h
    split at h
    · rename_i he
      injection h with h
      subst h
      exact ⟨List.mem_cons_self, he⟩
    · obtain ⟨h1, h2⟩ := findT_mem' h
      exact ⟨List.mem_cons_of_mem _ h1, h2⟩
theorem ids_pos {h : Hist} (hr : rightH h = true) {t : Txn} (ht : t ∈ h.txs) : 1 ≤ t.id := by
  obtain ⟨_, h2, _⟩ := right_iff.1 hr
  exact (right_ops (h2 t ht)).1.1
theorem read_zero {h : Hist} (hr : rightH h = true) {t : Txn} (ht : t ∈ h.txs) {o : Opr} (ho : o ∈ t.ops) (hrd : o.rd = true) (h0 : o.t = 0) : o.n = 0 := by
  obtain ⟨_, h2, _⟩ := right_iff.1 hr
  have := (right_ops (h2 t ht)).2.2 o ho
  unfold Op.rightO at this
  rw [if_pos hrd] at this
  unfold Pk.vR at this
  simp [h0] at this
  omega
theorem la_zero {h : Hist} (hr : rightH h = true) (k : Int) : laF h (fun _ => true) (0, k) = 0 := by
  have : findT h.txs 0 = none := by
    cases hf : findT h.txs 0 with
    | none => rfl
    | some t =>
      obtain ⟨h1, h2⟩ := findT_mem' hf
      have := ids_pos hr h1
      omega
  show ((laH _ _ _ _ : Nat) : Int) = 0
  rw [laH_none _ _ _ _ this]
  rfl
theorem nx_nxB {h : Hist} (hr : rightH h = true) (k x z : Int) : (nxH (fun _ => true) h.ords (x, k) = some z) ↔ nxB h k x z = true := by
  rw [nx_is hr (P := fun _ => true) rfl]
  unfold nxB
  cases Om.nextB (ordL h.ords k) x with
  | true => simp
  | false => simp
/-- The program's count is the document's. -/
theorem cnt_ref {h : Hist} (hr : rightH h = true) (e : Edg) : cntE h (fun _ => true) e = refC h e := by
  obtain ⟨_, _, hp, _⟩ := right_iff.1 hr
  unfold refC
  cases hfa : findT h.txs e.f with
  | none =>
    apply Classical.byContradiction
    intro hc
    obtain ⟨a, b, ha, _⟩ := cnt_ends hc
    rw [hfa] at ha
    cases ha
  | some a =>
    cases hfb : findT h.txs e.t with
    | none =>
      apply Classical.byContradiction
      intro hc
      obtain ⟨_, b, _, hb, _⟩ := cnt_ends hc
      rw [hfb] at hb
      cases hb
    | some b =>
      dsimp only
      by_cases hg : a.dn = true ∧ b.dn = true ∧ e.f ≠ e.t
      · rw [if_pos hg]
        obtain ⟨hda, hdb, hne⟩ := hg
        obtain ⟨hma, hia⟩ := findT_mem' hfa
        obtain ⟨hmb, hib⟩ := findT_mem' hfb
        have hf1 := ids_pos hr hma
        have hla : ∀ o : Opr, o.t = e.f → o.k = e.k → laF h (fun _ => true) (o.t, o.k) = ((wrN a.ops e.k : Nat) : Int) := fun o h1 h2 => by
          show ((laH _ _ _ _ : Nat) : Int) = _
          rw [h1, h2, laH_some _ _ _ _ _ hp hfa]
          unfold laT
          rw [hda]; rfl
        rw [cntE_right hr]
        have hz : e.kd ≠ 2 → e.kd ≠ 3 → sm (fun t => sm (fun o => rdE (nxH (fun _ => true) h.ords) (laF h fun _ => true) (fun _ => true) t.id t.dn o e) t.ops) h.txs = 0 := fun k2 k3 => by
          rw [sm_congr (g := fun _ => 0), sm_zero]
          intro t _
          rw [sm_congr (g := fun _ => 0), sm_zero]
          intro o _
          unfold rdE rdW rdR
          split
          · rw [if_neg (fun hh => k2 (by rw [hh.2]; rfl))]
            split
            · rw [if_neg (fun hh => k3 (by rw [hh.2]; rfl))]
            · rfl
          · rfl
        have hw : e.kd ≠ 1 → wwF (nxH (fun _ => true) h.ords) (fun _ => false) e = 0 := fun k1 => by
          unfold wwF
          rw [if_neg (fun hh => k1 hh.1)]
        unfold refN
        by_cases k1 : e.kd = 1
        · rw [if_pos k1, hz (by omega) (by omega), Nat.add_zero]
          unfold wwF
          by_cases hn : nxB h e.k e.f e.t = true
          · rw [if_pos hn, if_pos ⟨k1, by omega, (nx_nxB hr _ _ _).2 hn, rfl⟩]
          · rw [if_neg hn, if_neg (fun hh => hn ((nx_nxB hr _ _ _).1 hh.2.2.1))]
        · rw [if_neg k1, hw k1, Nat.zero_add]
          by_cases k2 : e.kd = 2
          · rw [if_pos k2, sm_filter]
            rw [sm_congr (g := fun t => if t.id = b.id then sm (fun o => if p2 a e o = true then 1 else 0) t.ops else 0), sm_id hp _ hmb]
            intro t ht
            by_cases hi : t.id = b.id
            · rw [if_pos hi]
              obtain rfl := id_one hp ht hmb hi
              refine sm_congr fun o ho => ?_
              have hR : rdR (nxH (fun _ => true) h.ords) t.id o e = 0 := by
                unfold rdR
                split
                · rw [if_neg (fun hh => by have := congrArg Edg.kd hh.2; have h3 : e.kd = 3 := this; omega)]
                · rfl
              unfold rdE
              rw [hR, Nat.add_zero]
              by_cases hp2 : p2 a e o = true
              · rw [if_pos hp2]
                unfold p2 at hp2
                simp only [Bool.and_eq_true, decide_eq_true_eq] at hp2
                obtain ⟨⟨⟨q1, q2⟩, q3⟩, q4⟩ := hp2
                rw [if_pos (rdC_iff.2 ⟨hdb, q1, by omega, rfl, by rw [hla o q3 q2, q4]⟩)]
                unfold rdW
                rw [if_pos ⟨by omega, by unfold wrE; cases e; simp only at *; subst q3 q2 k2 hib; rfl⟩]
              · rw [if_neg hp2]
                split
                · rename_i hrc
                  obtain ⟨_, q1, _, _, q5⟩ := rdC_iff.1 hrc
                  unfold rdW
                  rw [if_neg]
                  rintro ⟨_, he⟩
                  have e1 : e.f = o.t := congrArg Edg.f he
                  have e2 : e.k = o.k := congrArg Edg.k he
                  refine hp2 ?_
                  unfold p2
                  have := hla o e1.symm e2.symm
                  rw [q5] at this
                  simp [q1, e1, e2, this]
                · rfl
            · rw [if_neg hi, sm_congr (g := fun _ => 0), sm_zero]
              intro o _
              unfold rdE rdW rdR
              split
              · rw [if_neg (fun hh => hi (by have := congrArg Edg.t hh.2; have h3 : e.t = t.id := this; omega))]
                split
                · rw [if_neg (fun hh => by have := congrArg Edg.kd hh.2; have h3 : e.kd = 3 := this; omega)]
                · rfl
              · rfl
          · rw [if_neg k2]
            by_cases k3 : e.kd = 3
            · rw [if_pos k3, sm_filter]
              rw [sm_congr (g := fun t => if t.id = a.id then sm (fun o => if p3 h a.id e o = true then 1 else 0) t.ops else 0), sm_id hp _ hma]
              intro t ht
              by_cases hi : t.id = a.id
              · rw [if_pos hi]
                obtain rfl := id_one hp ht hma hi
                refine sm_congr fun o ho => ?_
                have hW : rdW t.id o e = 0 := by
                  unfold rdW
                  rw [if_neg (fun hh => k2 (by rw [hh.2]; rfl))]
                unfold rdE
                rw [hW, Nat.zero_add]
                have hlast : o.rd = true → o.t ≠ t.id → (laF h (fun _ => true) (o.t, o.k) = o.n ↔ lastB h o = true) := fun q1 q2 => by
                  by_cases q0 : o.t = 0
                  · rw [q0, la_zero hr, read_zero hr ht ho q1 q0]
                    unfold lastB
                    simp [q0]
                  · rw [← la_last hr ht ho q1 q0 q2, decide_eq_true_iff]
                by_cases hp3 : p3 h t.id e o = true
                · rw [if_pos hp3]
                  unfold p3 at hp3
                  simp only [Bool.and_eq_true, decide_eq_true_eq] at hp3
                  obtain ⟨⟨⟨⟨q1, q2⟩, q3⟩, q4⟩, q5⟩ := hp3
                  rw [if_pos (rdC_iff.2 ⟨hda, q1, q3, rfl, (hlast q1 q3).2 q4⟩)]
                  unfold rdR
                  rw [q2, (nx_nxB hr _ _ _).2 q5]
                  dsimp only
                  rw [if_pos ⟨by omega, by unfold rwE; cases e; simp only at *; subst q2 k3 hia; rfl⟩]
                · rw [if_neg hp3]
                  split
                  · rename_i hrc
                    obtain ⟨_, q1, q2, _, q5⟩ := rdC_iff.1 hrc
                    unfold rdR
                    split
                    · rename_i z hz2
                      rw [if_neg]
                      rintro ⟨_, he⟩
                      have e1 : e.t = z := congrArg Edg.t he
                      have e2 : e.k = o.k := congrArg Edg.k he
                      refine hp3 ?_
                      unfold p3
                      rw [← e1, ← e2] at hz2
                      have h7 := (nx_nxB hr _ _ _).1 hz2
                      simp [q1, e2.symm, q2, (hlast q1 q2).1 q5, h7]
                    · rfl
                  · rfl
              · rw [if_neg hi, sm_congr (g := fun _ => 0), sm_zero]
                intro o _
                unfold rdE rdW rdR
                split
                · rw [if_neg (fun hh => k2 (by rw [hh.2]; rfl))]
                  split
                  · rw [if_neg (fun hh => hi (by have := congrArg Edg.f hh.2; have h3 : e.f = t.id := this; omega))]
                  · rfl
                · rfl
            · rw [if_neg k3, hz k2 k3]
      · rw [if_neg hg]
        apply Classical.byContradiction
        intro hc
        obtain ⟨a', b', ha, hb, q1, q2, q3⟩ := cnt_ends hc
        rw [hfa] at ha
        rw [hfb] at hb
        injection ha with ha
        injection hb with hb
        subst ha hb
        exact hg ⟨q1, q2, q3⟩
/-- All edges, as the document lists them. -/
def one1 (h : Hist) (e : Edg) : List Hvy := if 0 < refC h e then [⟨e.f, e.t, e.kd, e.k, ((refC h e : Nat) : Int)⟩] else []
def segB (h : Hist) (a kd k : Int) (bs : List Txn) : List Hvy := bs.flatMap fun b => one1 h ⟨a, b.id, kd, k⟩
def segK (h : Hist) (a kd : Int) (ks : List Int) : List Hvy := ks.flatMap fun k => segB h a kd k h.txs
def segD (h : Hist) (a : Int) (ks : List Int) (n : Nat) : List Hvy := (List.range n).flatMap fun i : Nat => segK h a ((i : Int) + 1) ks
def segA (h : Hist) (ks : List Int) (ts : List Txn) : List Hvy := ts.flatMap fun a => segD h a.id ks 3
/-- The keys of all operations. -/
def keysA (h : Hist) : List Int := keysL (h.txs.flatMap fun t => t.ops.map Opr.k)
def refL (h : Hist) : List Hvy := if rightH h = true then segA h (keysA h) h.txs else []
theorem flat_len {α β : Type} (f : α → List β) (c : Nat) : ∀ (l : List α), (∀ x ∈ l, (f x).length ≤ c) → (l.flatMap f).length ≤ c * l.length
  | [], _ => by simp
  | x :: l, h => by
    have h1 := flat_len f c l fun y hy => h y (List.mem_cons_of_mem _ hy)
    have h2 := h x List.mem_cons_self
    rw [List.flatMap_cons, List.length_append, List.length_cons, Nat.mul_succ]
    omega
theorem one1_len (h : Hist) (e : Edg) : (one1 h e).length ≤ 1 := by unfold one1; split <;> simp
theorem segB_len (h : Hist) (a kd k : Int) (bs : List Txn) : (segB h a kd k bs).length ≤ bs.length := by
  have := flat_len (fun b => one1 h ⟨a, b.id, kd, k⟩) 1 bs fun x _ => one1_len h _
  unfold segB
  omega
theorem segK_len (h : Hist) (a kd : Int) (ks : List Int) (c : Nat) (hc : h.txs.length ≤ c) : (segK h a kd ks).length ≤ c * ks.length :=
  flat_len _ c ks fun k _ => Nat.le_trans (segB_len h a kd k h.txs) hc
theorem segD_len (h : Hist) (a : Int) (ks : List Int) (n c d : Nat) (hc : h.txs.length ≤ c) (hd : ks.length ≤ d) : (segD h a ks n).length ≤ (c * d) * n := by
  have := flat_len (fun i : Nat => segK h a ((i : Int) + 1) ks) (c * d) (List.range n) fun i _ => Nat.le_trans (segK_len h a _ ks c hc) (Nat.mul_le_mul_left _ hd)
  rwa [List.length_range] at this
theorem segA_len (h : Hist) (ks : List Int) (ts : List Txn) (c d : Nat) (hc : h.txs.length ≤ c) (hd : ks.length ≤ d) : (segA h ks ts).length ≤ (c * d * 3) * ts.length :=
  flat_len _ _ ts fun a _ => segD_len h a.id ks 3 c d hc hd
theorem take_flat {α β : Type} (f : α → List β) (z : α) (l : List α) (k : Nat) (hk : k < l.length) : (l.take (k + 1)).flatMap f = (l.take k).flatMap f ++ f (l.getD k z) := by
  rw [Tx.take_snoc l z k hk, List.flatMap_append]
  simp
theorem segD_succ (h : Hist) (a : Int) (ks : List Int) (n : Nat) : segD h a ks (n + 1) = segD h a ks n ++ segK h a ((n : Int) + 1) ks := by
  unfold segD
  rw [List.range_succ, List.flatMap_append]
  simp
theorem mem_refL {h : Hist} (hr : rightH h = true) {x : Hvy} : x ∈ refL h ↔ refC h (edH x) ≠ 0 ∧ x = hvy (refC h) (toE (edH x)) := by
  unfold refL
  rw [if_pos hr]
  unfold segA segD segK segB one1
  simp only [List.mem_flatMap, List.mem_range]
  constructor
  · rintro ⟨a, _, i, _, k, _, b, _, hx⟩
    split at hx
    · rename_i h0
      rw [List.mem_singleton] at hx
      subst hx
      exact ⟨by unfold edH; simp only; omega, rfl⟩
    · cases hx
  · rintro ⟨h0, hx⟩
    have hc : cntE h (fun _ => true) (edH x) ≠ 0 := by rw [cnt_ref hr]; exact h0
    obtain ⟨a, b, ha, hb, _⟩ := cnt_ends hc
    obtain ⟨hma, hia⟩ := findT_mem' ha
    obtain ⟨hmb, hib⟩ := findT_mem' hb
    obtain ⟨t, ht, o, ho, hk⟩ := cnt_keyop hc
    have hkd : (edH x).kd = 1 ∨ (edH x).kd = 2 ∨ (edH x).kd = 3 := by
      obtain ⟨_, h5⟩ := cnt_some hc
      rcases h5 with ⟨h5, _⟩ | ⟨t, _, o, _, _, _, ⟨_, h6⟩ | ⟨z, _, _, h6⟩⟩
      · exact .inl h5
      · exact .inr (.inl (by rw [h6]; rfl))
      · exact .inr (.inr (by rw [h6]; rfl))
    have hkk : (edH x).k ∈ keysA h := by
      unfold keysA
      rw [mem_keysL, List.mem_flatMap]
      exact ⟨t, ht, List.mem_map.2 ⟨o, ho, hk⟩⟩
    have fin : ∀ i : Nat, i < 3 → (edH x).kd = (i : Int) + 1 → ∃ a, a ∈ h.txs ∧ ∃ i : Nat, i < 3 ∧ ∃ k, k ∈ keysA h ∧ ∃ b, b ∈ h.txs ∧ x ∈ (if 0 < refC h ⟨a.id, b.id, (i : Int) + 1, k⟩ then [(⟨a.id, b.id, (i : Int) + 1, k, ((refC h ⟨a.id, b.id, (i : Int) + 1, k⟩ : Nat) : Int)⟩ : Hvy)] else []) := fun i hi hkd => by
      refine ⟨a, hma, i, hi, (edH x).k, hkk, b, hmb, ?_⟩
      have he : (⟨a.id, b.id, (i : Int) + 1, (edH x).k⟩ : Edg) = edH x := by
        rw [hia, hib, ← hkd]
      rw [he, if_pos (by omega), List.mem_singleton]
      have hx' : x = ⟨(edH x).f, (edH x).t, (edH x).kd, (edH x).k, ((refC h (edH x) : Nat) : Int)⟩ := hx
      rw [hia, hib, ← hkd]
      exact hx'
    rcases hkd with h1 | h1 | h1
    · exact fin 0 (by omega) (by rw [h1]; rfl)
    · exact fin 1 (by omega) (by rw [h1]; rfl)
    · exact fin 2 (by omega) (by rw [h1]; rfl)
theorem one1_mem {h : Hist} {e : Edg} {x : Hvy} (hx : x ∈ one1 h e) : edH x = e := by
  unfold one1 at hx
  split at hx
  · rw [List.mem_singleton] at hx
    subst hx
    rfl
  · cases hx
/-- They stand in order. -/
theorem refL_rises {h : Hist} (hr : rightH h = true) : (refL h).Pairwise fun x y => Pk.ltE (toE (edH x)) (toE (edH y)) = true := by
  obtain ⟨_, _, hp, _⟩ := right_iff.1 hr
  have hk : (keysA h).Pairwise (· < ·) := keysL_rises _
  unfold refL
  rw [if_pos hr]
  have flatP : ∀ {α : Type} (f : α → List Hvy) (l : List α) (R : α → α → Prop), l.Pairwise R → (∀ a ∈ l, (f a).Pairwise fun x y => Pk.ltE (toE (edH x)) (toE (edH y)) = true) → (∀ a b, R a b → ∀ x ∈ f a, ∀ y ∈ f b, Pk.ltE (toE (edH x)) (toE (edH y)) = true) → (l.flatMap f).Pairwise fun x y => Pk.ltE (toE (edH x)) (toE (edH y)) = true := fun f l R hR h1 h2 => by
    induction l with
    | nil => simp
    | cons a l ih =>
      obtain ⟨r1, r2⟩ := List.pairwise_cons.1 hR
      rw [List.flatMap_cons]
      refine List.pairwise_append.2 ⟨h1 a List.mem_cons_self, ih r2 fun b hb => h1 b (List.mem_cons_of_mem _ hb), fun x hx y hy => ?_⟩
      obtain ⟨b, hb, hy⟩ := List.mem_flatMap.1 hy
      exact h2 a b (r1 b hb) x hx y hy
  have mB : ∀ {a kd k bs x}, x ∈ segB h a kd k bs → x.f = a ∧ x.kd = kd ∧ x.k = k := fun hx => by
    obtain ⟨b, _, hx⟩ := List.mem_flatMap.1 hx
    have := one1_mem hx
    exact ⟨congrArg Edg.f this, congrArg Edg.kd this, congrArg Edg.k this⟩
  have mK : ∀ {a kd ks x}, x ∈ segK h a kd ks → x.f = a ∧ x.kd = kd := fun hx => by
    obtain ⟨k, _, hx⟩ := List.mem_flatMap.1 hx
    exact ⟨(mB hx).1, (mB hx).2.1⟩
  have mD : ∀ {a ks n x}, x ∈ segD h a ks n → x.f = a := fun hx => by
    obtain ⟨i, _, hx⟩ := List.mem_flatMap.1 hx
    exact (mK hx).1
  refine flatP _ h.txs (fun a b => a.id < b.id) hp (fun a _ => ?_) (fun a b hab x hx y hy => ?_)
  · refine flatP _ (List.range 3) (fun i j => i < j) List.pairwise_lt_range (fun i _ => ?_) (fun i j hij x hx y hy => ?_)
    · refine flatP _ (keysA h) (· < ·) hk (fun k _ => ?_) (fun k k' hkk x hx y hy => ?_)
      · refine flatP _ h.txs (fun a b => a.id < b.id) hp (fun b _ => ?_) (fun b b' hbb x hx y hy => ?_)
        · unfold one1
          split <;> simp
        · have e1 := one1_mem hx
          have e2 := one1_mem hy
          have hbb : b.id < b'.id := hbb
          rw [e1, e2, Pk.ltE_iff]
          exact .inr ⟨rfl, .inr ⟨rfl, .inr ⟨rfl, hbb⟩⟩⟩
      · obtain ⟨x1, x2, x3⟩ := mB hx
        obtain ⟨y1, y2, y3⟩ := mB hy
        rw [Pk.ltE_iff]
        unfold toE edH
        simp only
        omega
    · obtain ⟨x1, x2⟩ := mK hx
      obtain ⟨y1, y2⟩ := mK hy
      rw [Pk.ltE_iff]
      unfold toE edH
      simp only
      omega
  · have x1 := mD hx
    have y1 := mD hy
    rw [Pk.ltE_iff]
    unfold toE edH
    simp only
    omega
theorem refL_lists (h : Hist) : Lists (cntE h fun _ => true) (refL h) := by
  cases hr : rightH h with
  | false =>
    refine ⟨[], by simp, fun x => by rw [cntE_wrong hr]; simp, ?_⟩
    unfold refL
    rw [if_neg (by rw [hr]; simp)]
    rfl
  | true =>
    refine ⟨(refL h).map fun x => toE (edH x), ?_, fun x => ?_, ?_⟩
    · show List.Pairwise _ _
      rw [List.pairwise_map]
      exact refL_rises hr
    · rw [List.mem_map, cnt_ref hr]
      constructor
      · rintro ⟨y, hy, rfl⟩
        exact ((mem_refL hr).1 hy).1
      · intro h0
        exact ⟨hvy (refC h) x, (mem_refL hr).2 ⟨h0, rfl⟩, rfl⟩
    · rw [List.map_map]
      conv => lhs; rw [← List.map_id (refL h)]
      refine List.map_congr_left fun x hx => ?_
      have := ((mem_refL hr).1 hx).2
      show x = hvy (cntE h fun _ => true) (toE (edH x))
      have hcc : hvy (cntE h fun _ => true) (toE (edH x)) = hvy (refC h) (toE (edH x)) := by
        unfold hvy
        rw [cnt_ref hr]
      rw [hcc]
      exact this
end Go.Proofs.YtcmafmdcgkpagaaGreat.Dg
namespace Go.Proofs.YtcmafmdcgkpagaaGreat.Dg
open Go.ChangeShapes Go.WideShapes Go.ChangeAt Go.RowKit Base F Tx Hi
set_option maxRecDepth 100000 in
set_option maxHeartbeats 8000000 in
theorem last_any {v u : Value} {h : Hist} (w : World) (hh : HistV w v u h) (hs : HistSm h) (o : Opr) : Calls Tryz.prog 34 #[.agg #[v, u], .agg #[.bool o.rd, .int .i64 o.k, .int .i64 o.t, .int .i64 o.n]] w (BoolNew (lastB h o) w) := by
  obtain ⟨p, c, hv, _⟩ := hh.1.form
  obtain ⟨q, d, hu, _⟩ := hh.2.form
  subst hv hu
  obtain ⟨xr, xk, xt, xn⟩ := o
  dsimp only
  obtain ⟨X, hX⟩ : ∃ X, X = (w.alloc (.cells #[.slice p h.txs.length c, .slice q h.ords.length d] 25)).alloc (.cells #[.bool xr, .int .i64 xk, .int .i64 xt, .int .i64 xn] 57) := ⟨_, rfl⟩
  have HA : Hid (Aft w X) := Lib.hid (by rw [hX]; exact (Aft.one _).lay _)
  have HC : Hid (∀ Z, Aft X Z → (Z.cell? ⟨w.heap.size, 0, none⟩ = some (.slice p h.txs.length c) ∧ Z.cell? ⟨w.heap.size, 1, none⟩ = some (.slice q h.ords.length d)) ∧ Z.cell? ⟨w.heap.size + 1, 0, none⟩ = some (.bool xr) ∧ Z.cell? ⟨w.heap.size + 1, 1, none⟩ = some (.int .i64 xk) ∧ Z.cell? ⟨w.heap.size + 1, 2, none⟩ = some (.int .i64 xt) ∧ Z.cell? ⟨w.heap.size + 1, 3, none⟩ = some (.int .i64 xn)) := Lib.hid fun Z hZ => by
    have e0 : X.heap[w.heap.size]? = some (.cells #[.slice p h.txs.length c, .slice q h.ords.length d] 25) := by rw [hX]; exact heap_alloc_lt _ _ _ _ (heap_alloc_at _ _ _ rfl)
    have e1 : X.heap[w.heap.size + 1]? = some (.cells #[.bool xr, .int .i64 xk, .int .i64 xt, .int .i64 xn] 57) := by rw [hX]; exact heap_alloc_at _ _ _ (by simp)
    have k0 := (hZ.block _ (heap_lt e0)).trans e0
    have k1 := (hZ.block _ (heap_lt e1)).trans e1
    simp [World.cell?, k0, k1]
  have HF := Lib.hid (rfind_any xt X (hh.below HA.out))
  have HXS : Hid (w.heap.size + 1 < X.heap.size) := Lib.hid (by rw [hX]; simp)
  have HOL : Hid (∀ t, findT h.txs xt = some t → t.ops.length ≤ 100) := Lib.hid fun t ht => hs.ops t (findT_mem ht)
  have HLB : Hid (lastB h ⟨xr, xk, xt, xn⟩ = if xt = 0 then true else match findT h.txs xt with
    | some u => u.dn && decide (xn = ((wrN u.ops xk : Nat) : Int))
    | none => false) := Lib.hid rfl
  have HE : Hid (∀ W r, Aft X W → lastB h ⟨xr, xk, xt, xn⟩ = r → BoolNew (lastB h ⟨xr, xk, xt, xn⟩) w (.returned (.bool r)) W) := Lib.hid fun W r hW hr => ⟨by rw [hr], HA.out.trans hW⟩
  generalize BoolNew (lastB h ⟨xr, xk, xt, xn⟩) w = Post at HE ⊢
  generalize lastB h ⟨xr, xk, xt, xn⟩ = lb at HLB HE
  generalize findT h.txs xt = ft at HF HLB HOL
  generalize h.txs.length = n1 at *
  generalize h.ords.length = n2 at *
  clear hh hs HA
  obtain ⟨⟨c0, c1⟩, d0, d1, d2, d3⟩ := HC.out X (Aft.refl _)
  have hxs := HXS.out
  by_cases h0 : xt = 0
  · have HR : Hid (lb = true) := Lib.hid (by rw [HLB.out, if_pos h0])
    subst h0
    have HF := Lib.hid (HE.out X true (Aft.refl _) HR.out)
    clear HLB HOL HC HE HR
    go_enter Tryz.func34, Tryz.ntmps34
    go_upto_region 1 with fail
    rw [← hX]
    clear hX
    go_wp2_with fail
    exact HF.out
  · have hb : (xt == 0) = false := by simp [h0]
    have HLB := Lib.hid (HLB.out.trans (if_neg h0))
    clear h0
    go_enter Tryz.func34, Tryz.ntmps34
    go_upto_region 1 with fail
    rw [← hX]
    clear hX
    go_wp2_with fail
    refine HF.out.mono ?_
    rintro e w2 ⟨ha, hft⟩
    clear c0 c1 d0 d1 d2 d3 hxs hb HF
    cases ft with
    | none =>
      dsimp only at hft
      subst hft
      obtain ⟨Y, hY⟩ : ∃ Y, Y = w2.alloc (.cells #[.int .i64 0, .bool false, .slice none 0 0] 42) := ⟨_, rfl⟩
      obtain ⟨D, hD⟩ : ∃ D, D = Y.drew := ⟨_, rfl⟩
      have HA3 : Hid (Aft X D ∧ Aft w2 D) := Lib.hid (by rw [hD, hY]; exact ⟨(ha.lay _).drew 1, (Aft.one _).drew 1⟩)
      have HC3 : Hid (∀ Z, Aft D Z → (Z.cell? ⟨w.heap.size + 1, 0, none⟩ = some (.bool xr) ∧ Z.cell? ⟨w.heap.size + 1, 1, none⟩ = some (.int .i64 xk) ∧ Z.cell? ⟨w.heap.size + 1, 2, none⟩ = some (.int .i64 xt) ∧ Z.cell? ⟨w.heap.size + 1, 3, none⟩ = some (.int .i64 xn)) ∧ Z.cell? ⟨w2.heap.size, 1, none⟩ = some (.bool false) ∧ Z.cell? ⟨w2.heap.size, 2, none⟩ = some (.slice none 0 0)) := Lib.hid fun Z hZ => by
        have e : D.heap[w2.heap.size]? = some (.cells #[.int .i64 0, .bool false, .slice none 0 0] 42) := by rw [hD, hY]; exact heap_alloc_at _ _ _ rfl
        have k := (hZ.block _ (heap_lt e)).trans e
        exact ⟨(HC.out Z (HA3.out.1.trans hZ)).2, by simp [World.cell?, k]⟩
      have HR := Lib.hid (HE.out D false HA3.out.1 HLB.out)
      clear HLB HOL HE HC ha
      go_upto_region 4 with fail
      rw [← hY]
      clear hY
      refine wp_region_held_drew (S := fun Z => (Z.cell? ⟨w.heap.size + 1, 0, none⟩ = some (.bool xr) ∧ Z.cell? ⟨w.heap.size + 1, 1, none⟩ = some (.int .i64 xk) ∧ Z.cell? ⟨w.heap.size + 1, 2, none⟩ = some (.int .i64 xt) ∧ Z.cell? ⟨w.heap.size + 1, 3, none⟩ = some (.int .i64 xn)) ∧ Z.cell? ⟨w2.heap.size, 1, none⟩ = some (.bool false) ∧ Z.cell? ⟨w2.heap.size, 2, none⟩ = some (.slice none 0 0)) (by kernel_rfl) (hD ▸ HC3.out _ (Aft.refl _)) (fun hHeld0 => ?_)
      rw [← hD] at hHeld0 ⊢
      clear hD
      refine wpAnyH_take (i := 0) (v := ?_) rfl (by kernel_rfl) (by kernel_rfl) (by kernel_rfl) (fun _ _ _ h => h) (Or.inl ⟨by rfl, ?ya0⟩) (by assumption) ?qa0
      case ya0 => (intro wz hSw; (try dsimp only at hSw); go_simp <;> with_reducible rfl)
      try simp only [Act.put, List.getElem_toArray, List.getElem_cons_zero, List.setIfInBounds_toArray, List.set_cons_zero, List.set_cons_succ]
      refine wpAnyH_take (i := 1) (v := ?_) rfl (by kernel_rfl) (by kernel_rfl) (by kernel_rfl) (fun _ _ _ h => h) (Or.inl ⟨by rfl, ?ya1⟩) (by assumption) ?qa1
      case ya1 => (intro wz hSw; (try dsimp only at hSw); go_simp <;> with_reducible rfl)
      try simp only [Act.put, List.getElem_toArray, List.getElem_cons_zero, List.getElem_cons_succ, List.setIfInBounds_toArray, List.set_cons_zero, List.set_cons_succ]
      refine wpAnyH_take (i := 2) (v := undef) rfl (by kernel_rfl) (by kernel_rfl) (by kernel_rfl) (fun _ _ _ h => h) (Or.inr ⟨by rfl, rfl⟩) (by assumption) ?_
      try simp only [Act.put, List.getElem_toArray, List.getElem_cons_zero, List.getElem_cons_succ, List.setIfInBounds_toArray, List.set_cons_zero, List.set_cons_succ]
      refine wpAnyH_take (i := 3) (v := undef) rfl (by kernel_rfl) (by kernel_rfl) (by kernel_rfl) (fun _ _ _ h => h) (Or.inr ⟨by rfl, rfl⟩) (by assumption) ?_
      try simp only [Act.put, List.getElem_toArray, List.getElem_cons_zero, List.getElem_cons_succ, List.setIfInBounds_toArray, List.set_cons_zero, List.set_cons_succ]
      refine wpAnyH_take (i := 4) (v := ?_) rfl (by kernel_rfl) (by kernel_rfl) (by kernel_rfl) (fun _ _ _ h => h) (Or.inl ⟨by rfl, ?ya4⟩) (by assumption) ?qa4
      case ya4 => (intro wz hSw; (try dsimp only at hSw); go_simp <;> with_reducible rfl)
      try simp only [Act.put, List.getElem_toArray, List.getElem_cons_zero, List.getElem_cons_succ, List.setIfInBounds_toArray, List.set_cons_zero, List.set_cons_succ]
      refine wpAnyH_take (i := 5) (v := ?_) rfl (by kernel_rfl) (by kernel_rfl) (by kernel_rfl) (fun _ _ _ h => h) (Or.inl ⟨by rfl, ?ya5⟩) (by assumption) ?qa5
      case ya5 => (intro wz hSw; (try dsimp only at hSw); go_simp <;> with_reducible rfl)
      try simp only [Act.put, List.getElem_toArray, List.getElem_cons_zero, List.getElem_cons_succ, List.setIfInBounds_toArray, List.set_cons_zero, List.set_cons_succ]
      refine wpAnyH_take (i := 6) (v := undef) rfl (by kernel_rfl) (by kernel_rfl) (by kernel_rfl) (fun _ _ _ h => h) (Or.inr ⟨by rfl, rfl⟩) (by assumption) ?_
      try simp only [Act.put, List.getElem_toArray, List.getElem_cons_zero, List.getElem_cons_succ, List.setIfInBounds_toArray, List.set_cons_zero, List.set_cons_succ]
      refine wpAnyH_take (i := 7) (v := undef) rfl (by kernel_rfl) (by kernel_rfl) (by kernel_rfl) (fun _ _ _ h => h) (Or.inr ⟨by rfl, rfl⟩) (by assumption) ?_
      try simp only [Act.put, List.getElem_toArray, List.getElem_cons_zero, List.getElem_cons_succ, List.setIfInBounds_toArray, List.set_cons_zero, List.set_cons_succ]
      refine wpAnyH_take (i := 8) (v := undef) rfl (by kernel_rfl) (by kernel_rfl) (by kernel_rfl) (fun _ _ _ h => h) (Or.inr ⟨by rfl, rfl⟩) (by assumption) ?_
      try simp only [Act.put, List.getElem_toArray, List.getElem_cons_zero, List.getElem_cons_succ, List.setIfInBounds_toArray, List.set_cons_zero, List.set_cons_succ]
      refine wpAnyH_take (i := 9) (v := undef) rfl (by kernel_rfl) (by kernel_rfl) (by kernel_rfl) (fun _ _ _ h => h) (Or.inr ⟨by rfl, rfl⟩) (by assumption) ?_
      try simp only [Act.put, List.getElem_toArray, List.getElem_cons_zero, List.getElem_cons_succ, List.setIfInBounds_toArray, List.set_cons_zero, List.set_cons_succ]
      refine wpAnyH_take (i := 10) (v := undef) rfl (by kernel_rfl) (by kernel_rfl) (by kernel_rfl) (fun _ _ _ h => h) (Or.inr ⟨by rfl, rfl⟩) (by assumption) ?_
      try simp only [Act.put, List.getElem_toArray, List.getElem_cons_zero, List.getElem_cons_succ, List.setIfInBounds_toArray, List.set_cons_zero, List.set_cons_succ]
      refine wpAnyH_take (i := 11) (v := undef) rfl (by kernel_rfl) (by kernel_rfl) (by kernel_rfl) (fun _ _ _ h => h) (Or.inr ⟨by rfl, rfl⟩) (by assumption) ?_
      try simp only [Act.put, List.getElem_toArray, List.getElem_cons_zero, List.getElem_cons_succ, List.setIfInBounds_toArray, List.set_cons_zero, List.set_cons_succ]
      refine wpAnyH_take (i := 12) (v := undef) rfl (by kernel_rfl) (by kernel_rfl) (by kernel_rfl) (fun _ _ _ h => h) (Or.inr ⟨by rfl, rfl⟩) (by assumption) ?_
      try simp only [Act.put, List.getElem_toArray, List.getElem_cons_zero, List.getElem_cons_succ, List.setIfInBounds_toArray, List.set_cons_zero, List.set_cons_succ]
      refine wpAnyH_take (i := 13) (v := undef) rfl (by kernel_rfl) (by kernel_rfl) (by kernel_rfl) (fun _ _ _ h => h) (Or.inr ⟨by rfl, rfl⟩) (by assumption) ?_
      try simp only [Act.put, List.getElem_toArray, List.getElem_cons_zero, List.getElem_cons_succ, List.setIfInBounds_toArray, List.set_cons_zero, List.set_cons_succ]
      refine wpAnyH_take (i := 14) (v := ?_) rfl (by kernel_rfl) (by kernel_rfl) (by kernel_rfl) (fun _ _ _ h => h) (Or.inl ⟨by rfl, ?ya14⟩) (by assumption) ?qa14
      case ya14 => (intro wz hSw; (try dsimp only at hSw); go_simp <;> with_reducible rfl)
      try simp only [Act.put, List.getElem_toArray, List.getElem_cons_zero, List.getElem_cons_succ, List.setIfInBounds_toArray, List.set_cons_zero, List.set_cons_succ]
      refine wpAnyH_take (i := 15) (v := ?_) rfl (by kernel_rfl) (by kernel_rfl) (by kernel_rfl) (fun _ _ _ h => h) (Or.inl ⟨by rfl, ?ya15⟩) (by assumption) ?qa15
      case ya15 => (intro wz hSw; (try dsimp only at hSw); go_simp <;> with_reducible rfl)
      try simp only [Act.put, List.getElem_toArray, List.getElem_cons_zero, List.getElem_cons_succ, List.setIfInBounds_toArray, List.set_cons_zero, List.set_cons_succ]
      refine wpAnyH_done (by kernel_rfl) ?_ _
      clear hHeld0 HC3 HA3
      go_wp2_with fail
      exact HR.out
    | some t =>
      dsimp only at hft HLB
      obtain ⟨sp, sc, he, hops⟩ := hft
      subst he
      have HLN := Lib.hid (HOL.out t rfl)
      obtain ⟨ti, td, tl⟩ := t
      dsimp only at hops HLB HLN
      cases td with
      | false =>
        generalize tl.length = tn at *
        obtain ⟨Y, hY⟩ : ∃ Y, Y = w2.alloc (.cells #[.int .i64 ti, .bool false, .slice sp tn sc] 42) := ⟨_, rfl⟩
        obtain ⟨D, hD⟩ : ∃ D, D = Y.drew := ⟨_, rfl⟩
        have HA3 : Hid (Aft X D ∧ Aft w2 D) := Lib.hid (by rw [hD, hY]; exact ⟨(ha.lay _).drew 1, (Aft.one _).drew 1⟩)
        have HC3 : Hid (∀ Z, Aft D Z → (Z.cell? ⟨w.heap.size + 1, 0, none⟩ = some (.bool xr) ∧ Z.cell? ⟨w.heap.size + 1, 1, none⟩ = some (.int .i64 xk) ∧ Z.cell? ⟨w.heap.size + 1, 2, none⟩ = some (.int .i64 xt) ∧ Z.cell? ⟨w.heap.size + 1, 3, none⟩ = some (.int .i64 xn)) ∧ Z.cell? ⟨w2.heap.size, 1, none⟩ = some (.bool false) ∧ Z.cell? ⟨w2.heap.size, 2, none⟩ = some (.slice sp tn sc)) := Lib.hid fun Z hZ => by
          have e : D.heap[w2.heap.size]? = some (.cells #[.int .i64 ti, .bool false, .slice sp tn sc] 42) := by rw [hD, hY]; exact heap_alloc_at _ _ _ rfl
          have k := (hZ.block _ (heap_lt e)).trans e
          exact ⟨(HC.out Z (HA3.out.1.trans hZ)).2, by simp [World.cell?, k]⟩
        have HR := Lib.hid (HE.out D false HA3.out.1 HLB.out)
        clear HLB HOL HE HC ha hops HLN
        go_upto_region 4 with fail
        rw [← hY]
        clear hY
        refine wp_region_held_drew (S := fun Z => (Z.cell? ⟨w.heap.size + 1, 0, none⟩ = some (.bool xr) ∧ Z.cell? ⟨w.heap.size + 1, 1, none⟩ = some (.int .i64 xk) ∧ Z.cell? ⟨w.heap.size + 1, 2, none⟩ = some (.int .i64 xt) ∧ Z.cell? ⟨w.heap.size + 1, 3, none⟩ = some (.int .i64 xn)) ∧ Z.cell? ⟨w2.heap.size, 1, none⟩ = some (.bool false) ∧ Z.cell? ⟨w2.heap.size, 2, none⟩ = some (.slice sp tn sc)) (by kernel_rfl) (hD ▸ HC3.out _ (Aft.refl _)) (fun hHeld0 => ?_)
        rw [← hD] at hHeld0 ⊢
        clear hD
        refine wpAnyH_take (i := 0) (v := ?_) rfl (by kernel_rfl) (by kernel_rfl) (by kernel_rfl) (fun _ _ _ h => h) (Or.inl ⟨by rfl, ?yb0⟩) (by assumption) ?qb0
        case yb0 => (intro wz hSw; (try dsimp only at hSw); go_simp <;> with_reducible rfl)
        try simp only [Act.put, List.getElem_toArray, List.getElem_cons_zero, List.setIfInBounds_toArray, List.set_cons_zero, List.set_cons_succ]
        refine wpAnyH_take (i := 1) (v := ?_) rfl (by kernel_rfl) (by kernel_rfl) (by kernel_rfl) (fun _ _ _ h => h) (Or.inl ⟨by rfl, ?yb1⟩) (by assumption) ?qb1
        case yb1 => (intro wz hSw; (try dsimp only at hSw); go_simp <;> with_reducible rfl)
        try simp only [Act.put, List.getElem_toArray, List.getElem_cons_zero, List.getElem_cons_succ, List.setIfInBounds_toArray, List.set_cons_zero, List.set_cons_succ]
        refine wpAnyH_take (i := 2) (v := ?_) rfl (by kernel_rfl) (by kernel_rfl) (by kernel_rfl) (fun _ _ _ h => h) (Or.inl ⟨by rfl, ?yb2⟩) (by assumption) ?qb2
        case yb2 => (intro wz hSw; (try dsimp only at hSw); go_simp <;> with_reducible rfl)
        try simp only [Act.put, List.getElem_toArray, List.getElem_cons_zero, List.getElem_cons_succ, List.setIfInBounds_toArray, List.set_cons_zero, List.set_cons_succ]
        refine wpAnyH_take (i := 3) (v := ?_) rfl (by kernel_rfl) (by kernel_rfl) (by kernel_rfl) (fun _ _ _ h => h) (Or.inl ⟨by rfl, ?yb3⟩) (by assumption) ?qb3
        case yb3 => (intro wz hSw; (try dsimp only at hSw); go_simp <;> with_reducible rfl)
        try simp only [Act.put, List.getElem_toArray, List.getElem_cons_zero, List.getElem_cons_succ, List.setIfInBounds_toArray, List.set_cons_zero, List.set_cons_succ]
        refine wpAnyH_take (i := 4) (v := ?_) rfl (by kernel_rfl) (by kernel_rfl) (by kernel_rfl) (fun _ _ _ h => h) (Or.inl ⟨by rfl, ?yb4⟩) (by assumption) ?qb4
        case yb4 => (intro wz hSw; (try dsimp only at hSw); go_simp <;> with_reducible rfl)
        try simp only [Act.put, List.getElem_toArray, List.getElem_cons_zero, List.getElem_cons_succ, List.setIfInBounds_toArray, List.set_cons_zero, List.set_cons_succ]
        refine wpAnyH_take (i := 5) (v := ?_) rfl (by kernel_rfl) (by kernel_rfl) (by kernel_rfl) (fun _ _ _ h => h) (Or.inl ⟨by rfl, ?yb5⟩) (by assumption) ?qb5
        case yb5 => (intro wz hSw; (try dsimp only at hSw); go_simp <;> with_reducible rfl)
        try simp only [Act.put, List.getElem_toArray, List.getElem_cons_zero, List.getElem_cons_succ, List.setIfInBounds_toArray, List.set_cons_zero, List.set_cons_succ]
        refine wpAnyH_take (i := 6) (v := undef) rfl (by kernel_rfl) (by kernel_rfl) (by kernel_rfl) (fun _ _ _ h => h) (Or.inr ⟨by rfl, rfl⟩) (by assumption) ?_
        try simp only [Act.put, List.getElem_toArray, List.getElem_cons_zero, List.getElem_cons_succ, List.setIfInBounds_toArray, List.set_cons_zero, List.set_cons_succ]
        refine wpAnyH_take (i := 7) (v := undef) rfl (by kernel_rfl) (by kernel_rfl) (by kernel_rfl) (fun _ _ _ h => h) (Or.inr ⟨by rfl, rfl⟩) (by assumption) ?_
        try simp only [Act.put, List.getElem_toArray, List.getElem_cons_zero, List.getElem_cons_succ, List.setIfInBounds_toArray, List.set_cons_zero, List.set_cons_succ]
        refine wpAnyH_take (i := 8) (v := undef) rfl (by kernel_rfl) (by kernel_rfl) (by kernel_rfl) (fun _ _ _ h => h) (Or.inr ⟨by rfl, rfl⟩) (by assumption) ?_
        try simp only [Act.put, List.getElem_toArray, List.getElem_cons_zero, List.getElem_cons_succ, List.setIfInBounds_toArray, List.set_cons_zero, List.set_cons_succ]
        refine wpAnyH_take (i := 9) (v := undef) rfl (by kernel_rfl) (by kernel_rfl) (by kernel_rfl) (fun _ _ _ h => h) (Or.inr ⟨by rfl, rfl⟩) (by assumption) ?_
        try simp only [Act.put, List.getElem_toArray, List.getElem_cons_zero, List.getElem_cons_succ, List.setIfInBounds_toArray, List.set_cons_zero, List.set_cons_succ]
        refine wpAnyH_take (i := 10) (v := undef) rfl (by kernel_rfl) (by kernel_rfl) (by kernel_rfl) (fun _ _ _ h => h) (Or.inr ⟨by rfl, rfl⟩) (by assumption) ?_
        try simp only [Act.put, List.getElem_toArray, List.getElem_cons_zero, List.getElem_cons_succ, List.setIfInBounds_toArray, List.set_cons_zero, List.set_cons_succ]
        refine wpAnyH_take (i := 11) (v := undef) rfl (by kernel_rfl) (by kernel_rfl) (by kernel_rfl) (fun _ _ _ h => h) (Or.inr ⟨by rfl, rfl⟩) (by assumption) ?_
        try simp only [Act.put, List.getElem_toArray, List.getElem_cons_zero, List.getElem_cons_succ, List.setIfInBounds_toArray, List.set_cons_zero, List.set_cons_succ]
        refine wpAnyH_take (i := 12) (v := undef) rfl (by kernel_rfl) (by kernel_rfl) (by kernel_rfl) (fun _ _ _ h => h) (Or.inr ⟨by rfl, rfl⟩) (by assumption) ?_
        try simp only [Act.put, List.getElem_toArray, List.getElem_cons_zero, List.getElem_cons_succ, List.setIfInBounds_toArray, List.set_cons_zero, List.set_cons_succ]
        refine wpAnyH_take (i := 13) (v := undef) rfl (by kernel_rfl) (by kernel_rfl) (by kernel_rfl) (fun _ _ _ h => h) (Or.inr ⟨by rfl, rfl⟩) (by assumption) ?_
        try simp only [Act.put, List.getElem_toArray, List.getElem_cons_zero, List.getElem_cons_succ, List.setIfInBounds_toArray, List.set_cons_zero, List.set_cons_succ]
        refine wpAnyH_take (i := 14) (v := ?_) rfl (by kernel_rfl) (by kernel_rfl) (by kernel_rfl) (fun _ _ _ h => h) (Or.inl ⟨by rfl, ?yb14⟩) (by assumption) ?qb14
        case yb14 => (intro wz hSw; (try dsimp only at hSw); go_simp <;> with_reducible rfl)
        try simp only [Act.put, List.getElem_toArray, List.getElem_cons_zero, List.getElem_cons_succ, List.setIfInBounds_toArray, List.set_cons_zero, List.set_cons_succ]
        refine wpAnyH_take (i := 15) (v := ?_) rfl (by kernel_rfl) (by kernel_rfl) (by kernel_rfl) (fun _ _ _ h => h) (Or.inl ⟨by rfl, ?yb15⟩) (by assumption) ?qb15
        case yb15 => (intro wz hSw; (try dsimp only at hSw); go_simp <;> with_reducible rfl)
        try simp only [Act.put, List.getElem_toArray, List.getElem_cons_zero, List.getElem_cons_succ, List.setIfInBounds_toArray, List.set_cons_zero, List.set_cons_succ]
        refine wpAnyH_done (by kernel_rfl) ?_ _
        clear hHeld0 HC3 HA3
        go_wp2_with fail
        exact HR.out
      | true =>
        have HW0 : Hid (∀ W, Aft w2 W → Calls Tryz.prog 33 #[.slice sp tl.length sc, .int .i64 xk] W (IntNew ((wrN tl xk : Nat) : Int) W)) := Lib.hid fun W hW => rwrites_any xk W (hops.below hW).2 (by have := HLN.out; omega)
        generalize ((wrN tl xk : Nat) : Int) = wv at HW0 HLB
        generalize tl.length = tn at *
        obtain ⟨Y, hY⟩ : ∃ Y, Y = w2.alloc (.cells #[.int .i64 ti, .bool true, .slice sp tn sc] 42) := ⟨_, rfl⟩
        obtain ⟨D, hD⟩ : ∃ D, D = Y.drew := ⟨_, rfl⟩
        have HA3 : Hid (Aft X D ∧ Aft w2 D) := Lib.hid (by rw [hD, hY]; exact ⟨(ha.lay _).drew 1, (Aft.one _).drew 1⟩)
        have HC3 : Hid (∀ Z, Aft D Z → (Z.cell? ⟨w.heap.size + 1, 0, none⟩ = some (.bool xr) ∧ Z.cell? ⟨w.heap.size + 1, 1, none⟩ = some (.int .i64 xk) ∧ Z.cell? ⟨w.heap.size + 1, 2, none⟩ = some (.int .i64 xt) ∧ Z.cell? ⟨w.heap.size + 1, 3, none⟩ = some (.int .i64 xn)) ∧ Z.cell? ⟨w2.heap.size, 1, none⟩ = some (.bool true) ∧ Z.cell? ⟨w2.heap.size, 2, none⟩ = some (.slice sp tn sc)) := Lib.hid fun Z hZ => by
          have e : D.heap[w2.heap.size]? = some (.cells #[.int .i64 ti, .bool true, .slice sp tn sc] 42) := by rw [hD, hY]; exact heap_alloc_at _ _ _ rfl
          have k := (hZ.block _ (heap_lt e)).trans e
          exact ⟨(HC.out Z (HA3.out.1.trans hZ)).2, by simp [World.cell?, k]⟩
        have HW := Lib.hid (HW0.out D HA3.out.2)
        have HR : Hid (∀ W, Aft D W → Post (.returned (.bool (xn == wv))) W) := Lib.hid fun W hW => HE.out W (xn == wv) (HA3.out.1.trans hW) (by rw [HLB.out, Bool.true_and, Bool.eq_iff_iff, decide_eq_true_iff, beq_iff_eq])
        clear HLB HOL HE HC ha hops HLN HW0
        go_upto_region 4 with fail
        rw [← hY]
        clear hY
        refine wp_region_held_drew (S := fun Z => (Z.cell? ⟨w.heap.size + 1, 0, none⟩ = some (.bool xr) ∧ Z.cell? ⟨w.heap.size + 1, 1, none⟩ = some (.int .i64 xk) ∧ Z.cell? ⟨w.heap.size + 1, 2, none⟩ = some (.int .i64 xt) ∧ Z.cell? ⟨w.heap.size + 1, 3, none⟩ = some (.int .i64 xn)) ∧ Z.cell? ⟨w2.heap.size, 1, none⟩ = some (.bool true) ∧ Z.cell? ⟨w2.heap.size, 2, none⟩ = some (.slice sp tn sc)) (by kernel_rfl) (hD ▸ HC3.out _ (Aft.refl _)) (fun hHeld0 => ?_)
        rw [← hD] at hHeld0 ⊢
        clear hD
        refine wpAnyH_take (i := 0) (v := ?_) rfl (by kernel_rfl) (by kernel_rfl) (by kernel_rfl) (fun _ _ _ h => h) (Or.inl ⟨by rfl, ?yc0⟩) (by assumption) ?qc0
        case yc0 => (intro wz hSw; (try dsimp only at hSw); go_simp <;> with_reducible rfl)
        try simp only [Act.put, List.getElem_toArray, List.getElem_cons_zero, List.setIfInBounds_toArray, List.set_cons_zero, List.set_cons_succ]
        refine wpAnyH_take (i := 1) (v := ?_) rfl (by kernel_rfl) (by kernel_rfl) (by kernel_rfl) (fun _ _ _ h => h) (Or.inl ⟨by rfl, ?yc1⟩) (by assumption) ?qc1
        case yc1 => (intro wz hSw; (try dsimp only at hSw); go_simp <;> with_reducible rfl)
        try simp only [Act.put, List.getElem_toArray, List.getElem_cons_zero, List.getElem_cons_succ, List.setIfInBounds_toArray, List.set_cons_zero, List.set_cons_succ]
        refine wpAnyH_take (i := 2) (v := ?_) rfl (by kernel_rfl) (by kernel_rfl) (by kernel_rfl) (fun _ _ _ h => h) (Or.inl ⟨by rfl, ?yc2⟩) (by assumption) ?qc2
        case yc2 => (intro wz hSw; (try dsimp only at hSw); go_simp <;> with_reducible rfl)
        try simp only [Act.put, List.getElem_toArray, List.getElem_cons_zero, List.getElem_cons_succ, List.setIfInBounds_toArray, List.set_cons_zero, List.set_cons_succ]
        refine wpAnyH_take (i := 3) (v := ?_) rfl (by kernel_rfl) (by kernel_rfl) (by kernel_rfl) (fun _ _ _ h => h) (Or.inl ⟨by rfl, ?yc3⟩) (by assumption) ?qc3
        case yc3 => (intro wz hSw; (try dsimp only at hSw); go_simp <;> with_reducible rfl)
        try simp only [Act.put, List.getElem_toArray, List.getElem_cons_zero, List.getElem_cons_succ, List.setIfInBounds_toArray, List.set_cons_zero, List.set_cons_succ]
        refine wpAnyH_take (i := 4) (v := ?_) rfl (by kernel_rfl) (by kernel_rfl) (by kernel_rfl) (fun _ _ _ h => h) (Or.inl ⟨by rfl, ?yc4⟩) (by assumption) ?qc4
        case yc4 => (intro wz hSw; (try dsimp only at hSw); go_simp <;> with_reducible rfl)
        try simp only [Act.put, List.getElem_toArray, List.getElem_cons_zero, List.getElem_cons_succ, List.setIfInBounds_toArray, List.set_cons_zero, List.set_cons_succ]
        refine wpAnyH_take (i := 5) (v := ?_) rfl (by kernel_rfl) (by kernel_rfl) (by kernel_rfl) (fun _ _ _ h => h) (Or.inl ⟨by rfl, ?yc5⟩) (by assumption) ?qc5
        case yc5 => (intro wz hSw; (try dsimp only at hSw); go_simp <;> with_reducible rfl)
        try simp only [Act.put, List.getElem_toArray, List.getElem_cons_zero, List.getElem_cons_succ, List.setIfInBounds_toArray, List.set_cons_zero, List.set_cons_succ]
        refine wpAnyH_take (i := 6) (v := ?_) rfl (by kernel_rfl) (by kernel_rfl) (by kernel_rfl) (fun _ _ _ h => h) (Or.inl ⟨by rfl, ?yc6⟩) (by assumption) ?qc6
        case yc6 => (intro wz hSw; (try dsimp only at hSw); go_simp <;> with_reducible rfl)
        try simp only [Act.put, List.getElem_toArray, List.getElem_cons_zero, List.getElem_cons_succ, List.setIfInBounds_toArray, List.set_cons_zero, List.set_cons_succ]
        refine wpAnyH_take (i := 7) (v := ?_) rfl (by kernel_rfl) (by kernel_rfl) (by kernel_rfl) (fun _ _ _ h => h) (Or.inl ⟨by rfl, ?yc7⟩) (by assumption) ?qc7
        case yc7 => (intro wz hSw; (try dsimp only at hSw); go_simp <;> with_reducible rfl)
        try simp only [Act.put, List.getElem_toArray, List.getElem_cons_zero, List.getElem_cons_succ, List.setIfInBounds_toArray, List.set_cons_zero, List.set_cons_succ]
        refine wpAnyH_take (i := 8) (v := ?_) rfl (by kernel_rfl) (by kernel_rfl) (by kernel_rfl) (fun _ _ _ h => h) (Or.inl ⟨by rfl, ?yc8⟩) (by assumption) ?qc8
        case yc8 => (intro wz hSw; (try dsimp only at hSw); go_simp <;> with_reducible rfl)
        try simp only [Act.put, List.getElem_toArray, List.getElem_cons_zero, List.getElem_cons_succ, List.setIfInBounds_toArray, List.set_cons_zero, List.set_cons_succ]
        refine wpAnyH_take (i := 9) (v := ?_) rfl (by kernel_rfl) (by kernel_rfl) (by kernel_rfl) (fun _ _ _ h => h) (Or.inl ⟨by rfl, ?yc9⟩) (by assumption) ?qc9
        case yc9 => (intro wz hSw; (try dsimp only at hSw); go_simp <;> with_reducible rfl)
        try simp only [Act.put, List.getElem_toArray, List.getElem_cons_zero, List.getElem_cons_succ, List.setIfInBounds_toArray, List.set_cons_zero, List.set_cons_succ]
        refine wpAnyH_take (i := 10) (v := ?_) rfl (by kernel_rfl) (by kernel_rfl) (by kernel_rfl) (fun _ _ _ h => h) (Or.inl ⟨by rfl, ?yc10⟩) (by assumption) ?qc10
        case yc10 => (intro wz hSw; (try dsimp only at hSw); go_simp <;> with_reducible rfl)
        try simp only [Act.put, List.getElem_toArray, List.getElem_cons_zero, List.getElem_cons_succ, List.setIfInBounds_toArray, List.set_cons_zero, List.set_cons_succ]
        refine wpAnyH_take (i := 11) (v := ?_) rfl (by kernel_rfl) (by kernel_rfl) (by kernel_rfl) (fun _ _ _ h => h) (Or.inl ⟨by rfl, ?yc11⟩) (by assumption) ?qc11
        case yc11 => (intro wz hSw; (try dsimp only at hSw); go_simp <;> with_reducible rfl)
        try simp only [Act.put, List.getElem_toArray, List.getElem_cons_zero, List.getElem_cons_succ, List.setIfInBounds_toArray, List.set_cons_zero, List.set_cons_succ]
        refine wpAnyH_ready (rs := [12]) (by kernel_rfl) (by simp) ?_
        refine AllReadyH.cons rfl (fun K hK => ?_) AllReadyH.nil
        go_simp
        refine HW.out.mono ?_
        rintro e w4 ⟨rfl, hb⟩
        have HA4 : Hid (Aft D w4) := Lib.hid hb
        clear hb
        refine hK.out _ _ (HC3.out _ HA4.out) (fun hHeldc12 => ?_)
        clear hK K
        try simp only [Act.put, List.getElem_toArray, List.getElem_cons_zero, List.getElem_cons_succ, List.setIfInBounds_toArray, List.set_cons_zero, List.set_cons_succ]
        refine wpAnyH_take (i := 13) (v := ?_) rfl (by kernel_rfl) (by kernel_rfl) (by kernel_rfl) (fun _ _ _ h => h) (Or.inl ⟨by rfl, ?yc13⟩) (by assumption) ?qc13
        case yc13 => (intro wz hSw; (try dsimp only at hSw); go_simp <;> with_reducible rfl)
        try simp only [Act.put, List.getElem_toArray, List.getElem_cons_zero, List.getElem_cons_succ, List.setIfInBounds_toArray, List.set_cons_zero, List.set_cons_succ]
        refine wpAnyH_take (i := 14) (v := ?_) rfl (by kernel_rfl) (by kernel_rfl) (by kernel_rfl) (fun _ _ _ h => h) (Or.inl ⟨by rfl, ?yc14⟩) (by assumption) ?qc14
        case yc14 => (intro wz hSw; (try dsimp only at hSw); go_simp <;> with_reducible rfl)
        try simp only [Act.put, List.getElem_toArray, List.getElem_cons_zero, List.getElem_cons_succ, List.setIfInBounds_toArray, List.set_cons_zero, List.set_cons_succ]
        refine wpAnyH_take (i := 15) (v := ?_) rfl (by kernel_rfl) (by kernel_rfl) (by kernel_rfl) (fun _ _ _ h => h) (Or.inl ⟨by rfl, ?yc15⟩) (by assumption) ?qc15
        case yc15 => (intro wz hSw; (try dsimp only at hSw); go_simp <;> with_reducible rfl)
        try simp only [Act.put, List.getElem_toArray, List.getElem_cons_zero, List.getElem_cons_succ, List.setIfInBounds_toArray, List.set_cons_zero, List.set_cons_succ]
        refine wpAnyH_done (by kernel_rfl) ?_ _
        have HR4 := Lib.hid (HR.out w4 HA4.out)
        clear hHeld0 hHeldc12 HC3 HA3 HR HW HA4
        go_wp2_with fail
        exact HR4.out
end Go.Proofs.YtcmafmdcgkpagaaGreat.Dg
