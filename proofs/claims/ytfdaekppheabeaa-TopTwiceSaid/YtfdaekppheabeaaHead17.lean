/-
  Contracts of small functions, several texts laid into one. Not a statement of the seat.
-/
import Derived.Test.YtfdaekppheabeaaHead14
import Derived.Test.YtfdaekppheabeaaHead13
import Derived.Test.YtfdaekppheabeaaHead16
import Derived.Test.YtfdaekppheabeaaFHvy
import Derived.Test.YtfdaekppheabeaaHead5
import Derived.Test.YtfdaekppheabeaaHead9
import Derived.Test.YtfdaekppheabeaaHead4
import Derived.Test.YtfdaekppheabeaaHead1
namespace Go.Proofs.Ytfdaekppheabeaa.Dg
open F Tx Hi Off
/-- Sums over lists. -/
def sm {α : Type} (f : α → Nat) : List α → Nat
  | [] => 0
  | x :: l => f x + sm f l
section
variable {α β : Type}
theorem sm_zero (l : List α) : sm (fun _ => 0) l = 0 := by
  induction l with
  | nil => rfl
  | cons x l ih => rw [sm, ih]
theorem sm_congr {f g : α → Nat} {l : List α} (h : ∀ x ∈ l, f x = g x) : sm f l = sm g l := by
  induction l with
  | nil => rfl
  | cons x l ih => rw [sm, sm, h x List.mem_cons_self, ih fun y hy => h y (List.mem_cons_of_mem _ hy)]
theorem sm_add (f g : α → Nat) (l : List α) : sm (fun x => f x + g x) l = sm f l + sm g l := by
  induction l with
  | nil => rfl
  | cons x l ih => simp only [sm]; rw [ih]; omega
theorem sm_comm (f : α → β → Nat) (l : List α) (m : List β) : sm (fun a => sm (f a) m) l = sm (fun b => sm (fun a => f a b) l) m := by
  induction l with
  | nil => simp only [sm]; rw [sm_zero]
  | cons x l ih => simp only [sm]; rw [ih, sm_add]
theorem sm_append (f : α → Nat) (l m : List α) : sm f (l ++ m) = sm f l + sm f m := by
  induction l with
  | nil => simp [sm]
  | cons x l ih => simp only [List.cons_append, sm]; rw [ih]; omega
theorem sm_take (f : α → Nat) (z : α) (l : List α) (k : Nat) (h : k < l.length) : sm f (l.take (k + 1)) = sm f (l.take k) + f (l.getD k z) := by
  rw [Tx.take_snoc l z k h, sm_append]
  simp [sm]
theorem sm_map (f : β → Nat) (g : α → β) (l : List α) : sm f (l.map g) = sm (fun x => f (g x)) l := by
  induction l with
  | nil => rfl
  | cons x l ih => simp only [List.map_cons, sm]; rw [ih]
theorem sm_le (f : α → Nat) (b : Nat) (l : List α) (h : ∀ x ∈ l, f x ≤ b) : sm f l ≤ b * l.length := by
  induction l with
  | nil => simp [sm]
  | cons x l ih =>
    have h1 := ih fun y hy => h y (List.mem_cons_of_mem _ hy)
    have h2 := h x List.mem_cons_self
    rw [sm, List.length_cons, Nat.mul_succ]
    omega
theorem sm_length (l : List α) : sm (fun _ => 1) l = l.length := by
  induction l with
  | nil => rfl
  | cons x l ih => rw [sm, ih, List.length_cons]; omega
theorem sm_filter (p : α → Bool) (l : List α) : (l.filter p).length = sm (fun x => if p x = true then 1 else 0) l := by
  induction l with
  | nil => rfl
  | cons x l ih =>
    rw [sm, ← ih, List.filter_cons]
    split <;> simp [*] <;> omega
theorem sm_none [DecidableEq α] (z : α) (l : List α) (h : z ∉ l) : sm (fun x => if x = z then 1 else 0) l = 0 := by
  induction l with
  | nil => rfl
  | cons x l ih =>
    rw [sm, ih fun hh => h (List.mem_cons_of_mem _ hh), if_neg fun e => h (by rw [e]; exact List.mem_cons_self)]
/-- One of a list in which none stands twice. -/
theorem sm_one [DecidableEq α] (z : α) (l : List α) (hn : l.Nodup) (h : z ∈ l) : sm (fun x => if x = z then 1 else 0) l = 1 := by
  induction l with
  | nil => cases h
  | cons x l ih =>
    obtain ⟨h1, h2⟩ := List.nodup_cons.1 hn
    rw [sm]
    by_cases e : x = z
    · rw [if_pos e, sm_none z l (e ▸ h1)]
    · rw [if_neg e, ih h2 (by
        rcases List.mem_cons.1 h with h | h
        · exact absurd h.symm e
        · exact h)]
theorem sm_pos {f : α → Nat} {l : List α} {x : α} (hx : x ∈ l) : f x ≤ sm f l := by
  induction l with
  | nil => cases hx
  | cons y l ih =>
    rw [sm]
    rcases List.mem_cons.1 hx with rfl | h
    · omega
    · have := ih h
      omega
theorem sm_some {f : α → Nat} {l : List α} (h : sm f l ≠ 0) : ∃ x, x ∈ l ∧ f x ≠ 0 := by
  induction l with
  | nil => exact absurd rfl h
  | cons y l ih =>
    by_cases h0 : f y = 0
    · rw [sm, h0, Nat.zero_add] at h
      obtain ⟨x, h1, h2⟩ := ih h
      exact ⟨x, List.mem_cons_of_mem _ h1, h2⟩
    · exact ⟨y, List.mem_cons_self, h0⟩
end
def toE (e : Edg) : Pk.E := (e.f, e.t, e.kd, e.k)
def ofE (x : Pk.E) : Edg := ⟨x.1, x.2.1, x.2.2.1, x.2.2.2⟩
theorem ofE_toE (e : Edg) : ofE (toE e) = e := rfl
theorem toE_ofE (x : Pk.E) : toE (ofE x) = x := rfl
theorem ofE_inj {x y : Pk.E} (h : ofE x = ofE y) : x = y := by rw [← toE_ofE x, h, toE_ofE]
def hvy (c : Edg → Nat) (x : Pk.E) : Hvy := ⟨x.1, x.2.1, x.2.2.1, x.2.2.2, ((c (ofE x) : Nat) : Int)⟩
def edH (x : Hvy) : Edg := ⟨x.f, x.t, x.kd, x.k⟩
/-- The list has all edges of which the count is not 0, in order, with their counts. -/
def Lists (c : Edg → Nat) (l : List Hvy) : Prop := ∃ ks : List Pk.E, Pk.Rises ks ∧ (∀ x, x ∈ ks ↔ c (ofE x) ≠ 0) ∧ l = ks.map (hvy c)
theorem Lists.one {c : Edg → Nat} {l m : List Hvy} (h1 : Lists c l) (h2 : Lists c m) : l = m := by
  obtain ⟨k1, a1, a2, rfl⟩ := h1
  obtain ⟨k2, b1, b2, rfl⟩ := h2
  rw [Pk.rises_ext a1 b1 fun x => (a2 x).trans (b2 x).symm]
theorem rises_nodup {l : List Pk.E} (h : Pk.Rises l) : l.Nodup := h.imp fun {a b} hab e => by
  rw [e, Pk.lt_irr] at hab
  cases hab
section
variable {c : Edg → Nat} {l : List Hvy}
theorem Lists.mem (h : Lists c l) {x : Hvy} (hx : x ∈ l) : x.n = ((c (edH x) : Nat) : Int) ∧ c (edH x) ≠ 0 := by
  obtain ⟨ks, _, h2, rfl⟩ := h
  obtain ⟨y, hy, rfl⟩ := List.mem_map.1 hx
  exact ⟨rfl, (h2 y).1 hy⟩
theorem Lists.has (h : Lists c l) {e : Edg} (he : c e ≠ 0) : hvy c (toE e) ∈ l := by
  obtain ⟨ks, _, h2, rfl⟩ := h
  exact List.mem_map.2 ⟨toE e, (h2 _).2 he, rfl⟩
theorem Lists.lt (h : Lists c l) {i : Nat} (h0 : 0 < i) (hi : i < l.length) : Pk.ltE (toE (edH (l.getD (i - 1) Hvy.zero))) (toE (edH (l.getD i Hvy.zero))) = true := by
  obtain ⟨ks, h1, _, rfl⟩ := h
  rw [List.length_map] at hi
  have := List.pairwise_iff_getElem.1 h1 (i - 1) i (by omega) hi (by omega)
  rw [List.getD_eq_getElem?_getD, List.getD_eq_getElem?_getD, List.getElem?_eq_getElem (by rw [List.length_map]; omega), List.getElem?_eq_getElem (by rw [List.length_map]; omega)]
  simpa [hvy, edH, toE] using this
/-- A sum of counts over some of the edges. -/
def tot (p : Hvy → Bool) (l : List Hvy) : Nat := sm (fun x => if p x = true then x.n.toNat else 0) l
theorem Lists.tot_eq (h : Lists c l) (p : Hvy → Bool) : ∃ ks : List Pk.E, ks.Nodup ∧ (∀ x, x ∈ ks ↔ c (ofE x) ≠ 0) ∧ tot p l = sm (fun x => if p (hvy c x) = true then c (ofE x) else 0) ks := by
  obtain ⟨ks, h1, h2, rfl⟩ := h
  refine ⟨ks, rises_nodup h1, h2, ?_⟩
  unfold tot
  rw [sm_map]
  rfl
end
theorem sumO_sm (nx : Int × Int → Option Int) (la : Int × Int → Int) (P : Int → Bool) (id : Int) (d : Bool) (e : Edg) : ∀ l, sumO nx la P id d l e = sm (fun o => rdE nx la P id d o e) l
  | [] => rfl
  | o :: l => by rw [sumO, sm, sumO_sm nx la P id d e l]
theorem sumT_sm (nx : Int × Int → Option Int) (la : Int × Int → Int) (P : Int → Bool) (e : Edg) : ∀ l, sumT nx la P l e = sm (fun t => sm (fun o => rdE nx la P t.id t.dn o e) t.ops) l
  | [] => rfl
  | t :: l => by rw [sumT, sm, sumT_sm nx la P e l, sumO_sm]
abbrev laF (h : Hist) (P : Int → Bool) : Int × Int → Int := fun q => ((laH P h.txs q.1 q.2 : Nat) : Int)
theorem cntE_right {h : Hist} (hr : rightH h = true) (P : Int → Bool) (e : Edg) : cntE h P e = wwF (nxH P h.ords) (fun _ => false) e + sm (fun t => sm (fun o => rdE (nxH P h.ords) (laF h P) P t.id t.dn o e) t.ops) h.txs := by
  unfold cntE
  rw [if_pos hr, sumT_sm]
theorem cntE_wrong {h : Hist} (hr : rightH h = false) (P : Int → Bool) (e : Edg) : cntE h P e = 0 := by
  unfold cntE
  rw [if_neg (by rw [hr]; simp)]
/-- What an edge with a reason is. -/
theorem cnt_some {h : Hist} {P : Int → Bool} {e : Edg} (hc : cntE h P e ≠ 0) : rightH h = true ∧ ((e.kd = 1 ∧ e.f ≠ 0 ∧ nxH P h.ords (e.f, e.k) = some e.t) ∨ ∃ t, t ∈ h.txs ∧ ∃ o, o ∈ t.ops ∧ rdC (laF h P) P t.id t.dn o = true ∧ o.k = e.k ∧ ((o.t ≠ 0 ∧ e = wrE t.id o) ∨ ∃ z, nxH P h.ords (o.t, o.k) = some z ∧ z ≠ t.id ∧ e = rwE t.id o z)) := by
  have hr : rightH h = true := by
    cases hr : rightH h with
    | true => rfl
    | false => exact absurd (cntE_wrong hr P e) hc
  refine ⟨hr, ?_⟩
  rw [cntE_right hr] at hc
  by_cases h1 : wwF (nxH P h.ords) (fun _ => false) e = 0
  · rw [h1, Nat.zero_add] at hc
    obtain ⟨t, ht, h2⟩ := sm_some hc
    obtain ⟨o, ho, h3⟩ := sm_some h2
    refine .inr ⟨t, ht, o, ho, ?_⟩
    unfold rdE at h3
    split at h3
    · rename_i hrd
      refine ⟨hrd, ?_⟩
      by_cases h4 : rdW t.id o e = 0
      · rw [h4, Nat.zero_add] at h3
        unfold rdR at h3
        split at h3
        · rename_i z hz
          split at h3
          · rename_i hh
            exact ⟨by rw [hh.2]; rfl, .inr ⟨z, hz, hh.1, hh.2⟩⟩
          · exact absurd rfl h3
        · exact absurd rfl h3
      · unfold rdW at h4
        split at h4
        · rename_i hh
          exact ⟨by rw [hh.2]; rfl, .inl hh⟩
        · exact absurd rfl h4
    · exact absurd rfl h3
  · unfold wwF at h1
    split at h1
    · rename_i hh
      exact .inl ⟨hh.1, hh.2.1, hh.2.2.1⟩
    · exact absurd rfl h1
theorem nxH_only (P : Int → Bool) {key : Int} (hP : P key = false) (a : Int) : ∀ (os : List Ordr) (F : Int × Int → Option Int), os.foldl (nxO P) F (a, key) = F (a, key)
  | [], F => rfl
  | o :: os, F => by
    rw [List.foldl_cons, nxH_only P hP a os]
    unfold nxO
    split
    · rename_i hp
      have hk : o.key ≠ key := fun e => by rw [e, hP] at hp; cases hp
      have : ∀ (l : List Int) (s : Int × (Int × Int → Option Int)), (l.foldl (nxS o.key) s).2 (a, key) = s.2 (a, key) := fun l => by
        induction l with
        | nil => intro s; rfl
        | cons x l ih =>
          intro s
          rw [List.foldl_cons, ih, nxS]
          show (if (a, key) = (s.1, o.key) then some x else s.2 (a, key)) = _
          rw [if_neg fun e => hk (congrArg Prod.snd e).symm]
      exact this _ _
    · rfl
/-- Key by key. -/
theorem cnt_key (h : Hist) (key : Int) (e : Edg) : cntE h (fun k => k == key) e = if e.k = key then cntE h (fun _ => true) e else 0 := by
  by_cases hk : e.k = key
  · rw [if_pos hk]
    cases hr : rightH h with
    | false => rw [cntE_wrong hr, cntE_wrong hr]
    | true =>
      have hnx : ∀ a k, k = key → nxH (fun k => k == key) h.ords (a, k) = nxH (fun _ => true) h.ords (a, k) := fun a k hk => by
        rw [nx_is hr (P := fun k => k == key) (by simpa using hk), nx_is hr (P := fun _ => true) rfl]
      have hla : ∀ t k, k = key → laH (fun k => k == key) h.txs t k = laH (fun _ => true) h.txs t k := fun t k hk => by
        clear hnx
        induction h.txs with
        | nil => rfl
        | cons x l ih =>
          rw [laH, laH, ih]
          unfold laT
          simp [hk]
      rw [cntE_right hr, cntE_right hr]
      congr 1
      · unfold wwF
        rw [hnx _ _ hk]
      · refine sm_congr fun t _ => sm_congr fun o _ => ?_
        by_cases hok : o.k = key
        · have e1 : rdC (laF h fun k => k == key) (fun k => k == key) t.id t.dn o = rdC (laF h fun _ => true) (fun _ => true) t.id t.dn o := by
            unfold rdC
            show (_ && (o.k == key) && decide (((laH (fun k => k == key) h.txs o.t o.k : Nat) : Int) = o.n)) = (_ && true && decide (((laH (fun _ => true) h.txs o.t o.k : Nat) : Int) = o.n))
            rw [hla _ _ hok, hok, beq_self_eq_true]
          have e2 : rdR (nxH (fun k => k == key) h.ords) t.id o e = rdR (nxH (fun _ => true) h.ords) t.id o e := by
            unfold rdR
            rw [hnx _ _ hok]
          unfold rdE
          rw [e1, e2]
        · have hw : rdW t.id o e = 0 := by
            unfold rdW wrE
            rw [if_neg]
            rintro ⟨_, rfl⟩
            exact hok hk
          have hrr : ∀ nx, rdR nx t.id o e = 0 := fun nx => by
            unfold rdR rwE
            split
            · rw [if_neg]
              rintro ⟨_, rfl⟩
              exact hok hk
            · rfl
          unfold rdE
          rw [hw, hrr, hrr]
          simp
  · rw [if_neg hk]
    apply Classical.byContradiction
    intro hc
    obtain ⟨hr, h1⟩ := cnt_some hc
    rcases h1 with ⟨_, _, hn⟩ | ⟨t, _, o, _, hrd, hok, _⟩
    · unfold nxH at hn
      rw [nxH_only (fun k => k == key) (by simpa using hk)] at hn
      cases hn
    · unfold rdC at hrd
      simp only [Bool.and_eq_true] at hrd
      have := hrd.1.2
      rw [hok] at this
      simp [hk] at this
theorem Lists.key {h : Hist} {l m : List Hvy} {key : Int} (h1 : Lists (cntE h (fun _ => true)) l) (h2 : Lists (cntE h (fun k => k == key)) m) : m = l.filter fun x => x.k == key := by
  refine h2.one ?_
  obtain ⟨ks, a1, a2, rfl⟩ := h1
  refine ⟨ks.filter (fun x => x.2.2.2 == key), a1.filter _, fun x => ?_, ?_⟩
  · rw [List.mem_filter, a2, cnt_key]
    have : (ofE x).k = x.2.2.2 := rfl
    rw [this]
    by_cases hk : x.2.2.2 = key <;> simp [hk]
  · rw [List.filter_map]
    show (ks.filter _).map _ = _
    refine List.map_congr_left fun x hx => ?_
    have hk := (List.mem_filter.1 hx).2
    unfold hvy
    have hk : x.2.2.2 = key := by simpa [hvy] using hk
    rw [cnt_key, if_pos (show (ofE x).k = key from hk)]
end Go.Proofs.Ytfdaekppheabeaa.Dg
namespace Go.Proofs.Ytfdaekppheabeaa.Dg
open F Tx Hi Off
theorem chain_mem : ∀ (l : List Int) (a0 a b : Int), chain a0 l a = some b → (a = a0 ∨ a ∈ l) ∧ b ∈ l
  | [], _, _, _, h => by cases h
  | x :: l, a0, a, b, h => by
    rw [chain] at h
    split at h
    · rename_i e
      injection h with h
      exact ⟨.inl e, by rw [← h]; exact List.mem_cons_self⟩
    · obtain ⟨h1, h2⟩ := chain_mem l x a b h
      refine ⟨.inr ?_, List.mem_cons_of_mem _ h2⟩
      rcases h1 with e | h1
      · rw [e]; exact List.mem_cons_self
      · exact List.mem_cons_of_mem _ h1
theorem chain_ne : ∀ (l : List Int) (a0 a b : Int), (a0 :: l).Nodup → chain a0 l a = some b → a ≠ b
  | [], _, _, _, _, h => by cases h
  | x :: l, a0, a, b, hn, h => by
    obtain ⟨h0, h1⟩ := List.nodup_cons.1 hn
    rw [chain] at h
    split at h
    · rename_i e
      injection h with h
      intro e2
      exact h0 (by rw [← e, e2, ← h]; exact List.mem_cons_self)
    · exact chain_ne l x a b h1 h
theorem nx_ch {h : Hist} (hr : rightH h = true) {P : Int → Bool} {key : Int} (hP : P key = true) (a : Int) : nxH P h.ords (a, key) = chain 0 (ordL h.ords key) a := by
  unfold nxH
  rw [nxH_chain P hP a h.ords _ (right_keys hr) fun o ho => (right_order hr ho).1]
  cases chain 0 (ordL h.ords key) a <;> rfl
/-- Who is next is one of an order of that key. -/
theorem nx_some {h : Hist} (hr : rightH h = true) {P : Int → Bool} {key a b : Int} (hn : nxH P h.ords (a, key) = some b) : ∃ o, o ∈ h.ords ∧ o.key = key ∧ chain 0 o.txs a = some b := by
  cases hP : P key with
  | false =>
    unfold nxH at hn
    rw [nxH_only P hP] at hn
    cases hn
  | true =>
    rw [nx_ch hr hP] at hn
    obtain ⟨_, hb⟩ := chain_mem _ _ _ _ hn
    obtain ⟨o, h1, h2, h3⟩ := ordL_mem hb
    exact ⟨o, h1, h2, by rw [← h3]; exact hn⟩
theorem nx_end {h : Hist} (hr : rightH h = true) {P : Int → Bool} {key a b : Int} (hn : nxH P h.ords (a, key) = some b) : a ≠ b ∧ (∃ t, findT h.txs b = some t ∧ t.dn = true ∧ 0 < wrN t.ops key) ∧ (a ≠ 0 → ∃ t, findT h.txs a = some t ∧ t.dn = true ∧ 0 < wrN t.ops key) := by
  obtain ⟨o, ho, hk, hc⟩ := nx_some hr hn
  obtain ⟨h1, h2⟩ := right_order hr ho
  obtain ⟨h3, h4⟩ := chain_mem _ _ _ _ hc
  subst hk
  refine ⟨chain_ne _ _ _ _ h1 hc, h2 b h4, fun h0 => ?_⟩
  rcases h3 with e | h3
  · exact absurd e h0
  · exact h2 a h3
theorem read_one {h : Hist} (hr : rightH h = true) {t : Txn} (ht : t ∈ h.txs) {o : Opr} (ho : o ∈ t.ops) (hrd : o.rd = true) (h0 : o.t ≠ 0) (h1 : o.t ≠ t.id) : 1 ≤ o.n := by
  obtain ⟨_, h2, _, _, _⟩ := right_iff.1 hr
  have hm : (⟨o.t, o.k, o.n⟩ : Ver) ∈ needsL t.id t.ops := needs_has t.ops [] ho hrd h0 h1
  exact (needs_bd (h2 t ht) hm).2
theorem rdC_iff {la : Int × Int → Int} {P : Int → Bool} {id : Int} {d : Bool} {o : Opr} : rdC la P id d o = true ↔ d = true ∧ o.rd = true ∧ o.t ≠ id ∧ P o.k = true ∧ la (o.t, o.k) = o.n := by
  unfold rdC
  simp only [Bool.and_eq_true, decide_eq_true_eq]
  constructor
  · rintro ⟨⟨⟨⟨a, b⟩, c⟩, d⟩, e⟩; exact ⟨a, b, c, d, e⟩
  · rintro ⟨a, b, c, d, e⟩; exact ⟨⟨⟨⟨a, b⟩, c⟩, d⟩, e⟩
theorem la_some {h : Hist} (hr : rightH h = true) {P : Int → Bool} {t k n : Int} (hn : laF h P (t, k) = n) (h1 : 1 ≤ n) : ∃ u, findT h.txs t = some u ∧ u.dn = true ∧ n = ((wrN u.ops k : Nat) : Int) := by
  obtain ⟨_, _, hp, _⟩ := right_iff.1 hr
  have hn : ((laH P h.txs t k : Nat) : Int) = n := hn
  cases hf : findT h.txs t with
  | none =>
    rw [laH_none P _ _ _ hf] at hn
    omega
  | some u =>
    rw [laH_some P _ _ _ _ hp hf] at hn
    unfold laT at hn
    split at hn
    · rename_i hd
      rw [Bool.and_eq_true] at hd
      exact ⟨u, rfl, hd.1, hn.symm⟩
    · omega
/-- An edge with a reason joins two that are done. -/
theorem cnt_ends {h : Hist} {P : Int → Bool} {e : Edg} (hc : cntE h P e ≠ 0) : ∃ a b, findT h.txs e.f = some a ∧ findT h.txs e.t = some b ∧ a.dn = true ∧ b.dn = true ∧ e.f ≠ e.t := by
  obtain ⟨hr, h1⟩ := cnt_some hc
  obtain ⟨_, _, hp, _⟩ := right_iff.1 hr
  rcases h1 with ⟨_, h0, hn⟩ | ⟨t, ht, o, ho, hrd, hok, h2⟩
  · obtain ⟨h3, ⟨b, hb, hbd, _⟩, h4⟩ := nx_end hr hn
    obtain ⟨a, ha, had, _⟩ := h4 h0
    exact ⟨a, b, ha, hb, had, hbd, h3⟩
  · obtain ⟨hd, hr1, hne, _, hla⟩ := rdC_iff.1 hrd
    rcases h2 with ⟨h0, rfl⟩ | ⟨z, hz, hzi, rfl⟩
    · obtain ⟨u, hu, hud, _⟩ := la_some hr hla (read_one hr ht ho hr1 h0 hne)
      exact ⟨u, t, hu, findT_in hp ht, hud, hd, hne⟩
    · obtain ⟨_, ⟨b, hb, hbd, _⟩, _⟩ := nx_end hr hz
      exact ⟨t, b, findT_in hp ht, hb, hd, hbd, fun e => hzi e.symm⟩
/-- Whether a read is of what was there at first, or of an installed version. -/
def lastB (h : Hist) (o : Opr) : Bool := if o.t = 0 then true else match findT h.txs o.t with
  | some u => u.dn && decide (o.n = ((wrN u.ops o.k : Nat) : Int))
  | none => false
theorem la_last {h : Hist} (hr : rightH h = true) {t : Txn} (ht : t ∈ h.txs) {o : Opr} (ho : o ∈ t.ops) (hrd : o.rd = true) (h0 : o.t ≠ 0) (h1 : o.t ≠ t.id) : decide (laF h (fun _ => true) (o.t, o.k) = o.n) = lastB h o := by
  obtain ⟨_, _, hp, _⟩ := right_iff.1 hr
  have hn := read_one hr ht ho hrd h0 h1
  unfold lastB
  rw [if_neg h0]
  cases hf : findT h.txs o.t with
  | none =>
    have : laF h (fun _ => true) (o.t, o.k) = 0 := by
      show ((laH _ _ _ _ : Nat) : Int) = 0
      rw [laH_none _ _ _ _ hf]
      rfl
    rw [this]
    exact decide_eq_false (by omega)
  | some u =>
    have : laF h (fun _ => true) (o.t, o.k) = ((laT (fun _ => true) u.dn u.ops o.k : Nat) : Int) := by
      show ((laH _ _ _ _ : Nat) : Int) = _
      rw [laH_some _ _ _ _ _ hp hf]
    rw [this]
    show decide (((laT (fun _ => true) u.dn u.ops o.k : Nat) : Int) = o.n) = (u.dn && decide (o.n = ((wrN u.ops o.k : Nat) : Int)))
    unfold laT
    cases hd : u.dn with
    | false =>
      simp only [Bool.false_and, Bool.false_eq_true, if_false]
      exact decide_eq_false (by omega)
    | true =>
      simp only [Bool.true_and, if_true]
      rw [Bool.eq_iff_iff, decide_eq_true_iff, decide_eq_true_iff]
      exact ⟨fun e => e.symm, fun e => e.symm⟩
theorem sm_id {xs : List Txn} (hp : xs.Pairwise (fun a b => a.id < b.id)) (K : Txn → Nat) {t : Txn} (ht : t ∈ xs) : sm (fun x => if x.id = t.id then K x else 0) xs = K t := by
  induction xs with
  | nil => cases ht
  | cons x l ih =>
    obtain ⟨h1, h2⟩ := List.pairwise_cons.1 hp
    rw [sm]
    rcases List.mem_cons.1 ht with e | ht
    · subst e
      rw [if_pos rfl, sm_congr (g := fun _ => 0), sm_zero, Nat.add_zero]
      intro y hy
      have := h1 y hy
      rw [if_neg (by omega)]
    · have := h1 t ht
      rw [if_neg (by omega), ih h2 ht, Nat.zero_add]
/-- The reads of others' installed versions. -/
def rdsB (h : Hist) (t : Txn) (o : Opr) : Bool := t.dn && o.rd && decide (o.t ≠ 0) && decide (o.t ≠ t.id) && lastB h o
def isWR (id : Int) (x : Hvy) : Bool := decide (x.kd = 2) && decide (x.t = id)
theorem reads_sum {h : Hist} (hr : rightH h = true) {l : List Hvy} (hl : Lists (cntE h (fun _ => true)) l) {t : Txn} (ht : t ∈ h.txs) : tot (isWR t.id) l = (t.ops.filter (rdsB h t)).length := by
  obtain ⟨_, _, hp, _⟩ := right_iff.1 hr
  obtain ⟨ks, hn, hm, he⟩ := hl.tot_eq (isWR t.id)
  rw [he]
  generalize hnx : nxH (fun _ => true) h.ords = nx
  have hcnt : ∀ e, cntE h (fun _ => true) e = wwF nx (fun _ => false) e + sm (fun t => sm (fun o => rdE nx (laF h (fun _ => true)) (fun _ => true) t.id t.dn o e) t.ops) h.txs := fun e => by rw [cntE_right hr, hnx]
  have hq : ∀ c x, isWR t.id (hvy c x) = true ↔ (ofE x).kd = 2 ∧ (ofE x).t = t.id := fun c x => by
    unfold isWR hvy ofE
    simp
  have h1 : ∀ x, (if isWR t.id (hvy (cntE h (fun _ => true)) x) = true then cntE h (fun _ => true) (ofE x) else 0) = sm (fun t' => sm (fun o => if (ofE x).kd = 2 ∧ (ofE x).t = t.id then rdE nx (laF h (fun _ => true)) (fun _ => true) t'.id t'.dn o (ofE x) else 0) t'.ops) h.txs := fun x => by
    by_cases hx : (ofE x).kd = 2 ∧ (ofE x).t = t.id
    · rw [if_pos ((hq _ _).2 hx), hcnt]
      have hw : wwF nx (fun _ => false) (ofE x) = 0 := by
        unfold wwF
        rw [if_neg (fun hh => by have := hh.1; have := hx.1; omega)]
      rw [hw, Nat.zero_add]
      refine sm_congr fun t' _ => sm_congr fun o _ => ?_
      rw [if_pos hx]
    · rw [if_neg (fun hh => hx ((hq _ _).1 hh)), sm_congr (g := fun _ => 0), sm_zero]
      intro t' _
      rw [sm_congr (g := fun _ => 0), sm_zero]
      intro o _
      rw [if_neg hx]
  rw [sm_congr fun x _ => h1 x, sm_comm]
  have h2 : ∀ t' ∈ h.txs, sm (fun x => sm (fun o => if (ofE x).kd = 2 ∧ (ofE x).t = t.id then rdE nx (laF h (fun _ => true)) (fun _ => true) t'.id t'.dn o (ofE x) else 0) t'.ops) ks = if t'.id = t.id then (t'.ops.filter (rdsB h t')).length else 0 := fun t' ht' => by
    rw [sm_comm]
    have h3 : ∀ o ∈ t'.ops, sm (fun x => if (ofE x).kd = 2 ∧ (ofE x).t = t.id then rdE nx (laF h (fun _ => true)) (fun _ => true) t'.id t'.dn o (ofE x) else 0) ks = if t'.id = t.id ∧ rdsB h t' o = true then 1 else 0 := fun o ho => by
      by_cases hrc : rdC (laF h (fun _ => true)) (fun _ => true) t'.id t'.dn o = true
      · obtain ⟨hd, hrd, hne, _, hla⟩ := rdC_iff.1 hrc
        by_cases h0 : o.t = 0
        · rw [sm_congr (g := fun _ => 0), sm_zero, if_neg]
          · rintro ⟨_, hb⟩
            unfold rdsB at hb
            simp [h0] at hb
          · intro x _
            split
            · rename_i hx
              unfold rdE rdW rdR
              rw [if_pos hrc, if_neg (fun hh => hh.1 h0)]
              split
              · rw [if_neg (fun hh => by have := congrArg Edg.kd hh.2; have h3 : (ofE x).kd = 3 := this; have := hx.1; omega)]
              · rfl
            · rfl
        · have hlb : lastB h o = true := by rw [← la_last hr ht' ho hrd h0 hne]; exact decide_eq_true hla
          have hb : rdsB h t' o = true := by unfold rdsB; simp [hd, hrd, h0, hne, hlb]
          by_cases hi : t'.id = t.id
          · rw [if_pos ⟨hi, hb⟩]
            have hin : toE (wrE t'.id o) ∈ ks := by
              rw [hm, ofE_toE, hcnt]
              have h4 := sm_pos (f := fun t => sm (fun o' => rdE nx (laF h (fun _ => true)) (fun _ => true) t.id t.dn o' (wrE t'.id o)) t.ops) ht'
              have h5 := sm_pos (f := fun o' => rdE nx (laF h (fun _ => true)) (fun _ => true) t'.id t'.dn o' (wrE t'.id o)) ho
              have h6 : 1 ≤ rdE nx (laF h (fun _ => true)) (fun _ => true) t'.id t'.dn o (wrE t'.id o) := by
                unfold rdE rdW
                rw [if_pos hrc, if_pos ⟨h0, rfl⟩]
                omega
              simp only at h4 h5
              omega
            rw [← sm_one _ ks hn hin]
            refine sm_congr fun x _ => ?_
            by_cases hx : x = toE (wrE t'.id o)
            · subst hx
              rw [if_pos rfl, ofE_toE, if_pos ⟨rfl, hi⟩]
              unfold rdE rdW rdR
              rw [if_pos hrc, if_pos ⟨h0, rfl⟩]
              split
              · rw [if_neg (fun hh => by have := congrArg Edg.kd hh.2; have h3 : (2 : Int) = 3 := this; omega)]
              · rfl
            · rw [if_neg hx]
              split
              · rename_i hxx
                unfold rdE rdW rdR
                rw [if_pos hrc, if_neg (fun hh => hx (by rw [← toE_ofE x, hh.2]))]
                split
                · rw [if_neg (fun hh => by have := congrArg Edg.kd hh.2; have h3 : (ofE x).kd = 3 := this; have := hxx.1; omega)]
                · rfl
              · rfl
          · rw [if_neg (fun hh => hi hh.1), sm_congr (g := fun _ => 0), sm_zero]
            intro x _
            split
            · rename_i hxx
              unfold rdE rdW rdR
              rw [if_pos hrc, if_neg (fun hh => hi (by have := congrArg Edg.t hh.2; have h3 : (ofE x).t = t'.id := this; rw [← h3]; exact hxx.2))]
              split
              · rw [if_neg (fun hh => by have := congrArg Edg.kd hh.2; have h3 : (ofE x).kd = 3 := this; have := hxx.1; omega)]
              · rfl
            · rfl
      · rw [sm_congr (g := fun _ => 0), sm_zero, if_neg]
        · rintro ⟨_, hb⟩
          unfold rdsB at hb
          simp only [Bool.and_eq_true, decide_eq_true_eq] at hb
          obtain ⟨⟨⟨⟨hd, hrd⟩, h0⟩, hne⟩, hlb⟩ := hb
          rw [← la_last hr ht' ho hrd h0 hne, decide_eq_true_iff] at hlb
          exact hrc (rdC_iff.2 ⟨hd, hrd, hne, rfl, hlb⟩)
        · intro x _
          split
          · unfold rdE
            rw [if_neg hrc]
          · rfl
    rw [sm_congr h3]
    by_cases hi : t'.id = t.id
    · rw [if_pos hi, sm_filter]
      exact sm_congr fun o _ => by simp [hi]
    · rw [if_neg hi, sm_congr (g := fun _ => 0), sm_zero]
      intro o _
      rw [if_neg (fun hh => hi hh.1)]
  rw [sm_congr h2, sm_id hp (fun t' => (t'.ops.filter (rdsB h t')).length) ht]
/-- Pairs of neighbours. -/
def prs : Int → List Int → List (Int × Int)
  | _, [] => []
  | x, y :: l => (x, y) :: prs y l
theorem prs_len : ∀ (l : List Int) (x : Int), (prs x l).length = l.length
  | [], _ => rfl
  | y :: l, x => by rw [prs, List.length_cons, prs_len l y, List.length_cons]
theorem prs_fst : ∀ (l : List Int) (x : Int) (p : Int × Int), p ∈ prs x l → p.1 ∈ x :: l
  | y :: l, x, p, h => by
    rw [prs] at h
    rcases List.mem_cons.1 h with rfl | h
    · exact List.mem_cons_self
    · exact List.mem_cons_of_mem _ (prs_fst l y p h)
theorem prs_chain : ∀ (l : List Int) (x a b : Int), (x :: l).Nodup → (if chain x l a = some b then 1 else 0) = sm (fun p => if a = p.1 ∧ b = p.2 then 1 else 0) (prs x l)
  | [], x, a, b, _ => by rw [chain, if_neg (by simp)]; rfl
  | y :: l, x, a, b, hn => by
    obtain ⟨h0, h1⟩ := List.nodup_cons.1 hn
    rw [prs, sm, chain]
    by_cases hx : a = x
    · rw [if_pos hx, sm_congr (g := fun _ => 0), sm_zero]
      · by_cases hb : b = y
        · simp [hx, hb]
        · have hb2 : ¬ y = b := fun e => hb e.symm
          simp [hb, hb2]
      · intro p hp
        rw [if_neg]
        rintro ⟨e, _⟩
        exact h0 (by rw [← hx, e]; exact prs_fst l y p hp)
    · rw [if_neg hx, if_neg (show ¬ (a = (x, y).1 ∧ b = (x, y).2) from fun hh => hx hh.1), Nat.zero_add]
      exact prs_chain l y a b h1
theorem ordL_of : ∀ {os : List Ordr} {o : Ordr}, os.Pairwise (fun x y => x.key ≠ y.key) → o ∈ os → ordL os o.key = o.txs
  | y :: l, o, hk, ho => by
    obtain ⟨h1, h2⟩ := List.pairwise_cons.1 hk
    rw [ordL]
    rcases List.mem_cons.1 ho with e | ho
    · rw [if_pos (by rw [e]), e]
    · rw [if_neg (h1 o ho)]
      exact ordL_of h2 ho
def isWW (key : Int) (x : Hvy) : Bool := decide (x.kd = 1) && decide (x.k = key)
/-- One edge less than an order is long. -/
theorem ww_sum {h : Hist} (hr : rightH h = true) {l : List Hvy} (hl : Lists (cntE h (fun _ => true)) l) {o : Ordr} (ho : o ∈ h.ords) : 1 + tot (isWW o.key) l = o.txs.length := by
  obtain ⟨ks, hn, hm, he⟩ := hl.tot_eq (isWW o.key)
  rw [he]
  obtain ⟨hnd, hdn⟩ := right_order hr ho
  obtain ⟨h00, hnd1⟩ := List.nodup_cons.1 hnd
  -- the order is not empty
  have hne : o.txs ≠ [] := by
    obtain ⟨_, _, h3, _, h5, h6⟩ := right_iff.1 hr
    have hk : o.key ∈ KW h.txs := by rw [← h5]; exact List.mem_map.2 ⟨o, ho, rfl⟩
    have hpm : o.txs.Perm (wrsL h.txs o.key) := of_decide_eq_true (h6 o ho)
    unfold KW at hk
    rw [mem_keysL] at hk
    unfold allK at hk
    obtain ⟨t, ht, hk⟩ := List.mem_flatMap.1 hk
    split at hk
    · rename_i hd
      obtain ⟨q, hq, hqk⟩ := List.mem_map.1 hk
      have hw : 0 < wrN t.ops o.key := by
        unfold bareL at hq
        obtain ⟨hq1, hq2⟩ := List.mem_filter.1 hq
        unfold wrN
        exact List.countP_pos_iff.2 ⟨q, hq1, by simpa [hqk] using hq2⟩
      have : t.id ∈ wrsL h.txs o.key := by
        unfold wrsL
        exact List.mem_map.2 ⟨t, List.mem_filter.2 ⟨ht, by simp [hd, hw]⟩, rfl⟩
      intro e
      rw [e] at hpm
      have := hpm.mem_iff.2 this
      cases this
    · cases hk
  obtain ⟨x0, xs, hxs⟩ : ∃ x0 xs, o.txs = x0 :: xs := by
    cases hc : o.txs with
    | nil => exact absurd hc hne
    | cons a b => exact ⟨a, b, rfl⟩
  have hox : ∀ a, chain 0 (ordL h.ords o.key) a = chain 0 (x0 :: xs) a := fun a => by
    have : ordL h.ords o.key = x0 :: xs := by
      rw [← hxs]
      exact ordL_of (right_keys hr) ho
    rw [this]
  have hww : ∀ x : Pk.E, (if isWW o.key (hvy (cntE h (fun _ => true)) x) = true then cntE h (fun _ => true) (ofE x) else 0) = sm (fun p => if x = toE ⟨p.1, p.2, 1, o.key⟩ then 1 else 0) (prs x0 xs) := fun x => by
    by_cases hx : (ofE x).kd = 1 ∧ (ofE x).k = o.key
    · have hb : isWW o.key (hvy (cntE h (fun _ => true)) x) = true := by
        unfold isWW hvy
        have h1 : x.2.2.1 = 1 := hx.1
        have h2 : x.2.2.2 = o.key := hx.2
        simp [h1, h2]
      rw [if_pos hb, cntE_right hr]
      have hz : sm (fun t => sm (fun o => rdE (nxH (fun _ => true) h.ords) (laF h (fun _ => true)) (fun _ => true) t.id t.dn o (ofE x)) t.ops) h.txs = 0 := by
        rw [sm_congr (g := fun _ => 0), sm_zero]
        intro t _
        rw [sm_congr (g := fun _ => 0), sm_zero]
        intro o' _
        unfold rdE rdW rdR
        split
        · rw [if_neg (fun hh => by have := congrArg Edg.kd hh.2; have h3 : (ofE x).kd = 2 := this; have := hx.1; omega)]
          split
          · rw [if_neg (fun hh => by have := congrArg Edg.kd hh.2; have h3 : (ofE x).kd = 3 := this; have := hx.1; omega)]
          · rfl
        · rfl
      rw [hz, Nat.add_zero]
      unfold wwF
      rw [hx.2, nx_ch hr rfl, hox, chain]
      have hpc := prs_chain xs x0 (ofE x).f (ofE x).t (by rw [← hxs]; exact hnd1)
      have hre : ∀ p : Int × Int, (x = toE ⟨p.1, p.2, 1, o.key⟩) ↔ ((ofE x).f = p.1 ∧ (ofE x).t = p.2) := fun p => by
        obtain ⟨a, b, c, d⟩ := x
        unfold ofE at hx ⊢
        unfold toE
        simp only at hx ⊢
        constructor
        · intro e
          injection e with e1 e
          injection e with e2 _
          exact ⟨e1, e2⟩
        · rintro ⟨rfl, rfl⟩
          rw [hx.1, hx.2]
      rw [sm_congr (g := fun p : Int × Int => if (ofE x).f = p.1 ∧ (ofE x).t = p.2 then 1 else 0) (fun p _ => by simp only [hre p])]
      rw [← hpc]
      by_cases hf : (ofE x).f = 0
      · rw [if_neg (fun hh => hh.2.1 hf), if_neg]
        intro hh
        obtain ⟨h3, _⟩ := chain_mem _ _ _ _ hh
        refine h00 ?_
        rw [hxs, ← hf]
        rcases h3 with e | h3
        · rw [e]; exact List.mem_cons_self
        · exact List.mem_cons_of_mem _ h3
      · rw [if_neg hf]
        by_cases hch : chain x0 xs (ofE x).f = some (ofE x).t
        · rw [if_pos ⟨hx.1, hf, hch, rfl⟩, if_pos hch]
        · rw [if_neg (fun hh => hch hh.2.2.1), if_neg hch]
    · have hb : ¬ isWW o.key (hvy (cntE h (fun _ => true)) x) = true := by
        intro hb
        unfold isWW hvy at hb
        simp only [Bool.and_eq_true, decide_eq_true_eq] at hb
        exact hx hb
      rw [if_neg hb, sm_congr (g := fun _ => 0), sm_zero]
      intro p _
      rw [if_neg]
      rintro rfl
      exact hx ⟨rfl, rfl⟩
  rw [sm_congr fun x _ => hww x, sm_comm, sm_congr (g := fun _ => 1), sm_length, prs_len, hxs, List.length_cons]
  · omega
  · intro p hp
    refine sm_one _ ks hn ((hm _).2 fun h0 => ?_)
    have h1 := hww (toE ⟨p.1, p.2, 1, o.key⟩)
    rw [h0] at h1
    have h2 := sm_pos (f := fun q : Int × Int => if toE ⟨p.1, p.2, 1, o.key⟩ = toE ⟨q.1, q.2, 1, o.key⟩ then 1 else 0) hp
    simp only [if_pos] at h2
    rw [← h1] at h2
    split at h2 <;> omega
theorem findT_mem : ∀ {xs : List Txn} {id : Int} {t : Txn}, findT xs id = some t → t ∈ xs
  | x :: l, id, t, h => by
    unfold findT at h
    split at h
    · injection h with h
      rw [h]; exact List.mem_cons_self
    · exact List.mem_cons_of_mem _ (findT_mem h)
/-- Each edge's key is one that an operation has. -/
theorem cnt_keyop {h : Hist} {P : Int → Bool} {e : Edg} (hc : cntE h P e ≠ 0) : ∃ t, t ∈ h.txs ∧ ∃ o, o ∈ t.ops ∧ o.k = e.k := by
  obtain ⟨hr, h1⟩ := cnt_some hc
  rcases h1 with ⟨_, h0, hn⟩ | ⟨t, ht, o, ho, _, hok, _⟩
  · obtain ⟨_, ⟨b, hb, _, hw⟩, _⟩ := nx_end hr hn
    unfold wrN at hw
    obtain ⟨q, h2, h3⟩ := List.countP_pos_iff.1 hw
    refine ⟨b, ?_, q, h2, ?_⟩
    · exact findT_mem hb
    · simp at h3
      exact h3.2
  · exact ⟨t, ht, o, ho, hok⟩
/-- Key by key the edges are all. -/
theorem parts_sum {l : List Hvy} {met : List Int} (hn : met.Nodup) (h : ∀ x ∈ l, x.k ∈ met) : sm (fun k => (l.filter fun x => x.k == k).length) met = l.length := by
  rw [sm_congr (g := fun k => sm (fun x : Hvy => if x.k = k then 1 else 0) l), sm_comm, sm_congr (g := fun _ => 1), sm_length]
  · intro x hx
    show sm (fun k => if x.k = k then 1 else 0) met = 1
    rw [sm_congr (g := fun k => if k = x.k then 1 else 0), sm_one x.k met hn (h x hx)]
    intro k _
    by_cases hk : x.k = k
    · rw [if_pos hk, if_pos hk.symm]
    · rw [if_neg hk, if_neg (fun e => hk e.symm)]
  · intro k _
    rw [sm_filter]
    refine sm_congr fun x _ => ?_
    by_cases hk : x.k = k <;> simp [hk]
end Go.Proofs.Ytfdaekppheabeaa.Dg
namespace Go.Proofs.Ytfdaekppheabeaa.Dg
open F Tx Hi Off
def two1 (o : Opr) : List Opr := if o.rd then [o, o] else [o]
def two (l : List Opr) : List Opr := l.flatMap two1
def twoT (t : Txn) : Txn := ⟨t.id, t.dn, two t.ops⟩
def twoH (h : Hist) : Hist := ⟨h.txs.map twoT, h.ords⟩
theorem two_cons (o : Opr) (l : List Opr) : two (o :: l) = two1 o ++ two l := rfl
theorem two_take (l : List Opr) (k : Nat) (h : k < l.length) : two (l.take (k + 1)) = two (l.take k) ++ two1 (l.getD k Opr.zero) := by
  unfold two
  rw [take_snoc l Opr.zero k h, List.flatMap_append]
  simp
theorem two_len (l : List Opr) : (two l).length ≤ 2 * l.length := by
  induction l with
  | nil => simp [two]
  | cons o l ih =>
    rw [two_cons, List.length_append, List.length_cons]
    have : (two1 o).length ≤ 2 := by unfold two1; split <;> simp
    omega
theorem two_mem {l : List Opr} {o : Opr} (h : o ∈ two l) : o ∈ l := by
  obtain ⟨x, hx, h1⟩ := List.mem_flatMap.1 h
  unfold two1 at h1
  split at h1
  · simp at h1; rw [h1]; exact hx
  · simp at h1; rw [h1]; exact hx
theorem two_wrN (l : List Opr) (key : Int) : wrN (two l) key = wrN l key := by
  induction l with
  | nil => rfl
  | cons o l ih =>
    have e1 : wrN (two1 o ++ two l) key = wrN (two1 o) key + wrN (two l) key := by unfold wrN; rw [List.countP_append]
    have e2 : wrN (o :: l) key = wrN [o] key + wrN l key := by unfold wrN; rw [show o :: l = [o] ++ l from rfl, List.countP_append]
    rw [two_cons, e1, e2, ih]
    congr 1
    unfold two1
    split
    · rename_i hr
      simp [wrN, hr]
    · rfl
theorem two_bare (l : List Opr) : bareL (two l) = bareL l := by
  induction l with
  | nil => rfl
  | cons o l ih =>
    rw [two_cons]
    unfold bareL at *
    rw [List.filter_append, ih, show o :: l = [o] ++ l from rfl, List.filter_append]
    congr 1
    unfold two1
    split
    · rename_i hr
      simp [hr]
    · rfl
theorem need_again (id : Int) (acc : List Ver) (o : Opr) : needStep id (needStep id acc o) o = needStep id acc o := by
  have hno : ∀ a, need id a o = false → needStep id a o = a := fun a h => by unfold needStep; rw [h]; rfl
  by_cases h : need id acc o = true
  · have : needStep id acc o = acc ++ [verO o] := by unfold needStep; rw [if_pos h]
    rw [this]
    refine hno _ ?_
    have : inV (acc ++ [verO o]) (verO o) = true := inV_iff.2 (by simp)
    unfold need
    rw [this]
    simp
  · have h : need id acc o = false := by simpa using h
    rw [hno acc h, hno acc h]
theorem two_needs (id : Int) (l : List Opr) : needsL id (two l) = needsL id l := by
  have : ∀ (l : List Opr) (acc : List Ver), (two l).foldl (needStep id) acc = l.foldl (needStep id) acc := by
    intro l
    induction l with
    | nil => intro acc; rfl
    | cons o l ih =>
      intro acc
      rw [two_cons, List.foldl_append, ih, List.foldl_cons]
      congr 1
      unfold two1
      split
      · simp only [List.foldl_cons, List.foldl_nil]
        exact need_again id acc o
      · rfl
  exact this l []
theorem wrN_twice (pre : List Opr) (o : Opr) (hr : o.rd = true) (key : Int) : wrN (pre ++ [o]) key = wrN pre key := by
  rw [wrN_snoc, if_neg (by rw [hr]; simp), Nat.add_zero]
theorem rt_pre (id : Int) : ∀ (l p q : List Opr), (∀ key, wrN p key = wrN q key) → rtGo id p l = rtGo id q l
  | [], _, _, _ => rfl
  | o :: l, p, q, h => by
    rw [rtGo, rtGo, h, rt_pre id l (p ++ [o]) (q ++ [o]) fun key => by rw [wrN_snoc, wrN_snoc, h]]
theorem two_rtGo (id : Int) : ∀ (l pre : List Opr), rtGo id pre (two l) = rtGo id pre l
  | [], _ => rfl
  | o :: l, pre => by
    rw [two_cons]
    unfold two1
    split
    · rename_i hr
      show rtGo id pre (o :: o :: two l) = _
      rw [rtGo, rtGo, rtGo, wrN_twice pre o hr]
      have e : rtGo id (pre ++ [o] ++ [o]) (two l) = rtGo id (pre ++ [o]) l := by
        rw [two_rtGo id l]
        exact rt_pre id l _ _ fun key => wrN_twice _ o hr key
      rw [e]
      split
      · rfl
      · split <;> rfl
    · show rtGo id pre (o :: two l) = _
      rw [rtGo, rtGo, two_rtGo id l]
theorem two_right (id : Int) (l : List Opr) (hl : l.length ≤ 1000) : rightT id (two l) = rightT id l := by
  have := two_len l
  unfold rightT
  rw [two_rtGo, if_neg (show ¬ 4095 < (two l).length by omega), if_neg (show ¬ 4095 < l.length by omega)]
theorem two_cntW (xs : List Txn) (t k : Int) : cntW (xs.map twoT) t k = cntW xs t k := by
  induction xs with
  | nil => rfl
  | cons x l ih =>
    rw [List.map_cons, cntW, cntW, ih]
    show (if x.id = t then wrN (two x.ops) k else 0) + _ = _
    rw [two_wrN]
theorem two_rises : ∀ (xs : List Txn) (la : Int), (∀ t ∈ xs, t.ops.length ≤ 1000) → risesT la (xs.map twoT) = risesT la xs
  | [], _, _ => rfl
  | x :: l, la, h => by
    rw [List.map_cons, risesT, risesT, two_rises l _ fun t ht => h t (List.mem_cons_of_mem _ ht)]
    show (if x.id ≤ la then false else if rightT x.id (two x.ops) = 0 then risesT x.id l else false) = _
    rw [two_right _ _ (h x List.mem_cons_self)]
theorem two_wrs (xs : List Txn) (key : Int) : wrsL (xs.map twoT) key = wrsL xs key := by
  unfold wrsL
  rw [List.filter_map, List.map_map]
  show (xs.filter fun t => t.dn && decide (0 < wrN (two t.ops) key)).map Txn.id = _
  congr 2
  funext t
  rw [two_wrN]
theorem two_allK (xs : List Txn) : allK (xs.map twoT) = allK xs := by
  unfold allK
  rw [List.flatMap_map]
  show (xs.flatMap fun t => if t.dn then (bareL (two t.ops)).map Opr.k else []) = _
  congr 1
  funext t
  rw [two_bare]
theorem two_rightH {h : Hist} (hl : ∀ t ∈ h.txs, t.ops.length ≤ 1000) : rightH (twoH h) = rightH h := by
  unfold rightH twoH
  dsimp only
  have e1 : ∀ key, wrsL (h.txs.map twoT) key = wrsL h.txs key := two_wrs h.txs
  have e2 : wrsL (h.txs.map twoT) = wrsL h.txs := funext e1
  have e3 : KW (h.txs.map twoT) = KW h.txs := by unfold KW; rw [two_allK]
  have e4 : (h.txs.map twoT).any (lackB (h.txs.map twoT)) = h.txs.any (lackB h.txs) := by
    rw [List.any_map]
    congr 1
    funext t
    show (needsL t.id (two t.ops)).any (fun v => decide ((cntW (h.txs.map twoT) v.t v.k : Int) < v.n)) = (needsL t.id t.ops).any (fun v => decide ((cntW h.txs v.t v.k : Int) < v.n))
    rw [two_needs]
    congr 1
    funext v
    rw [two_cntW]
  rw [List.length_map, two_rises _ _ hl, e2, e3, e4]
theorem two_laH (P : Int → Bool) (xs : List Txn) (t k : Int) : laH P (xs.map twoT) t k = laH P xs t k := by
  induction xs with
  | nil => rfl
  | cons x l ih =>
    rw [List.map_cons, laH, laH, ih]
    show (if x.id = t then laT P x.dn (two x.ops) k else 0) + _ = _
    unfold laT
    rw [two_wrN]
theorem two_sm (f : Opr → Nat) (hf : ∀ o, o.rd = false → f o = 0) (l : List Opr) : sm f (two l) = 2 * sm f l := by
  induction l with
  | nil => rfl
  | cons o l ih =>
    rw [two_cons, sm_append, ih, sm]
    unfold two1
    split
    · simp only [sm]; omega
    · rename_i hr
      simp only [sm]
      rw [hf o (by simpa using hr)]
      omega
theorem rdE_write {nx : Int × Int → Option Int} {la : Int × Int → Int} {P : Int → Bool} {id : Int} {d : Bool} {o : Opr} {e : Edg} (h : o.rd = false) : rdE nx la P id d o e = 0 := by
  unfold rdE rdC
  rw [h]
  simp
theorem rdE_kind {nx : Int × Int → Option Int} {la : Int × Int → Int} {P : Int → Bool} {id : Int} {d : Bool} {o : Opr} {e : Edg} (h : e.kd = 1) : rdE nx la P id d o e = 0 := by
  unfold rdE
  split
  · have h1 : rdW id o e = 0 := by
      unfold rdW wrE
      rw [if_neg]
      rintro ⟨_, rfl⟩
      cases h
    have h2 : rdR nx id o e = 0 := by
      unfold rdR rwE
      split
      · rw [if_neg]
        rintro ⟨_, rfl⟩
        cases h
      · rfl
    rw [h1, h2]
  · rfl
def times (kd : Int) : Nat := if kd = 1 then 1 else 2
theorem two_cnt {h : Hist} (hl : ∀ t ∈ h.txs, t.ops.length ≤ 1000) (P : Int → Bool) (e : Edg) : cntE (twoH h) P e = times e.kd * cntE h P e := by
  cases hr : rightH h with
  | false =>
    rw [cntE_wrong hr, cntE_wrong (by rw [two_rightH hl]; exact hr), Nat.mul_zero]
  | true =>
    rw [cntE_right hr, cntE_right (by rw [two_rightH hl]; exact hr)]
    have hla : laF (twoH h) P = laF h P := funext fun q => by
      show ((laH P (h.txs.map twoT) q.1 q.2 : Nat) : Int) = _
      rw [two_laH]
    rw [hla]
    show wwF (nxH P h.ords) _ e + sm (fun t => sm (fun o => rdE (nxH P h.ords) (laF h P) P t.id t.dn o e) t.ops) (h.txs.map twoT) = _
    rw [sm_map]
    have e1 : sm (fun t => sm (fun o => rdE (nxH P h.ords) (laF h P) P (twoT t).id (twoT t).dn o e) (twoT t).ops) h.txs = sm (fun t => 2 * sm (fun o => rdE (nxH P h.ords) (laF h P) P t.id t.dn o e) t.ops) h.txs :=
      sm_congr fun t _ => two_sm _ (fun o ho => rdE_write ho) _
    have e2 : ∀ (f : Txn → Nat) (l : List Txn), sm (fun t => 2 * f t) l = 2 * sm f l := fun f l => by
      induction l with
      | nil => rfl
      | cons x l ih => rw [sm, sm, ih]; omega
    rw [e1, e2]
    by_cases hk : e.kd = 1
    · have e3 : sm (fun t => sm (fun o => rdE (nxH P h.ords) (laF h P) P t.id t.dn o e) t.ops) h.txs = 0 := by
        rw [sm_congr (g := fun _ => 0), sm_zero]
        intro t _
        rw [sm_congr (g := fun _ => 0), sm_zero]
        intro o _
        exact rdE_kind hk
      rw [e3]
      unfold times
      rw [if_pos hk]
      omega
    · have e3 : wwF (nxH P h.ords) (fun _ => false) e = 0 := by
        unfold wwF
        rw [if_neg fun hh => hk hh.1]
      rw [e3]
      unfold times
      rw [if_neg hk]
      omega
def timesH (x : Hvy) : Hvy := ⟨x.f, x.t, x.kd, x.k, ((times x.kd : Nat) : Int) * x.n⟩
theorem times_pos (kd : Int) : times kd ≠ 0 := by unfold times; split <;> decide
/-- The edges are the same, with so many more counts. -/
theorem two_lists {h : Hist} (hl : ∀ t ∈ h.txs, t.ops.length ≤ 1000) {P : Int → Bool} {l m : List Hvy} (h1 : Lists (cntE h P) l) (h2 : Lists (cntE (twoH h) P) m) : m = l.map timesH := by
  refine h2.one ?_
  obtain ⟨ks, a1, a2, rfl⟩ := h1
  refine ⟨ks, a1, fun x => ?_, ?_⟩
  · rw [a2, two_cnt hl]
    have := times_pos (ofE x).kd
    constructor
    · intro hh; exact Nat.mul_ne_zero this hh
    · intro hh e; rw [e, Nat.mul_zero] at hh; exact hh rfl
  · rw [List.map_map]
    refine List.map_congr_left fun x _ => ?_
    show timesH (hvy (cntE h P) x) = hvy (cntE (twoH h) P) x
    unfold timesH hvy
    rw [two_cnt hl]
    dsimp only
    rw [Int.natCast_mul]
    rfl
theorem two_ok {h : Hist} (ht : ∀ t ∈ h.txs, Txn.ok t) : ∀ t ∈ (twoH h).txs, Txn.ok t := by
  intro t hm
  obtain ⟨x, hx, rfl⟩ := List.mem_map.1 hm
  exact ⟨(ht x hx).1, fun o ho => (ht x hx).2 o (two_mem ho)⟩
end Go.Proofs.Ytfdaekppheabeaa.Dg
namespace Go.Proofs.Ytfdaekppheabeaa.Dg
open Go.ChangeShapes Go.WideShapes Go.ChangeAt Go.RowKit Base F Tx Hi Off
/-- A history's box. -/
def boxHi (v u : Value) : Obj := .cells #[v, u] 25
theorem cellsHi {w : World} {g : Nat} {v u : Value} (h : w.heap[g]? = some (boxHi v u)) : g < w.heap.size ∧ (w.cell? ⟨g, 0, none⟩ = some v ∧ w.cell? ⟨g, 1, none⟩ = some u) ∧ w.frozen? ⟨g, 0, none⟩ = false ∧ w.frozen? ⟨g, 1, none⟩ = false := by
  refine ⟨heap_lt h, ?_⟩
  unfold boxHi at h
  simp [World.cell?, World.frozen?, h]
set_option maxRecDepth 100000 in
theorem wpList_store_hi {ops : Array Oper} {rest : List Oper} {o : Oper} {a : Act} {w : World} {Q : Exit → Act → World → Prop} (hgd : o.guard = none) (x y : Operand) (ho : o.op = .store 25 x y)
    (g : Nat) (p : Option Addr) (n c : Nat) (q : Option Addr) (m d : Nat) (c0 : Array Value) (hx : a.eval x = .pointer (some ⟨g, 0, none⟩)) (hy : a.eval y = .agg #[.slice p n c, .slice q m d]) (hg : w.heap[g]? = some (.cells c0 25)) (h3 : c0.size = 2)
    (h : ∀ w', Stored w g (boxHi (.slice p n c) (.slice q m d)) w' → wpList Try.prog ops Q rest (a.put o.dst undef) w') : wpList Try.prog ops Q (o :: rest) a w :=
  wpList_store_row hgd _ x y ho g _ hx hy 25 _ hg (by kernel_rfl) (by rw [h3]; rfl) (by simp [Value.oneCell']) (h _ (stored_setRow _ _ _ _ _ hg))
set_option maxRecDepth 100000 in
theorem results_hi {fn : Func} {p : Tmp} (h : fn.results = #[.cell p 25]) (tmps : Array Value) (w : World) (g : Nat) (v u : Value)
    (hp : tmps.getD p undef = .pointer (some ⟨g, 0, none⟩)) (hg : w.heap[g]? = some (boxHi v u)) : (results fn tmps).run Try.prog w = .ok (.agg #[v, u]) w :=
  results_cell_row h tmps w g _ _ _ _ hp hg Try.underlying25 rfl (by kernel_rfl)
theorem storedHi {w : World} {g : Nat} {v u : Value} (h : w.heap[g]? = some (boxHi v u)) (x : Value) : Stored w g (boxHi x u) (w.setCell ⟨g, 0, none⟩ x) := by
  unfold boxHi at h
  refine ⟨rfl, rfl, rfl, by simp [World.setCell], ?_, fun j hj => Below.heap_setCell _ _ _ _ hj⟩
  simp [World.setCell, Array.getElem?_modify, h, boxHi]
theorem ownTxc_slice {B : Nat} {w : World} {v : Value} {zs : List Txc} (h : OwnTxc B w v zs) : ∃ p c, v = .slice p zs.length c ∧ zs.length ≤ c ∧ (p = none → c = 0) := by
  rcases h.2 with ⟨hv, h0⟩ | ⟨g, cap, cur, hv, _, _, hc, _⟩
  · exact ⟨none, 0, by rw [hv, h0], by omega, fun _ => rfl⟩
  · exact ⟨_, cap, hv, hc, fun e => by cases e⟩
theorem own_apart {B B' : Nat} {w : World} {v s : Value} {zs : List Txc} {l : List Opr} (h : OwnTxc B w v zs) (h' : OwnOpr B' w s l) : s.ownBlock = none ∨ s.ownBlock ≠ v.ownBlock := by
  rcases h'.2 with ⟨hv, _⟩ | ⟨g', cap', cur', hv', _, hg', _⟩
  · left; rw [hv]; rfl
  · right
    rcases h.2 with ⟨hv, _⟩ | ⟨g, cap, cur, hv, _, hg, _⟩
    · rw [hv, hv']; intro e; cases e
    · rw [hv, hv']
      intro e
      have : g' = g := by
        have e : some g' = some g := e
        injection e
      subst this
      rw [hg] at hg'
      injection hg' with hg'
      injection hg' with _ ht
      exact absurd ht (by decide)
/-- The transactions whose cells are zs. -/
def OT (B : Nat) (w : World) (zs : List Txc) (ts : List Txn) : Prop := zs.length = ts.length ∧ ∀ k, k < ts.length → (zs.getD k Txc.zero).i = (ts.getD k Txn.zero).id ∧ (zs.getD k Txc.zero).d = (ts.getD k Txn.zero).dn ∧ OwnOpr B w (.slice (zs.getD k Txc.zero).s.1 (zs.getD k Txc.zero).s.2.1 (zs.getD k Txc.zero).s.2.2) (ts.getD k Txn.zero).ops
theorem OT.below {B : Nat} {w w1 : World} {zs : List Txc} {ts : List Txn} (h : OT B w zs ts) (hb : Below w.heap.size w w1) : OT B w1 zs ts :=
  ⟨h.1, fun k hk => ⟨(h.2 k hk).1, (h.2 k hk).2.1, (h.2 k hk).2.2.below hb⟩⟩
theorem OT.kept {B : Nat} {w w1 : World} {zs : List Txc} {ts : List Txn} (h : OT B w zs ts) {row : Option Nat} (hg : w.grownBy w1 row) (hne : ∀ s l, OwnOpr B w s l → s.ownBlock = none ∨ s.ownBlock ≠ row) : OT B w1 zs ts :=
  ⟨h.1, fun k hk => ⟨(h.2 k hk).1, (h.2 k hk).2.1, (h.2 k hk).2.2.kept hg (hne _ _ (h.2 k hk).2.2)⟩⟩
theorem OT.snoc {B : Nat} {w : World} {zs : List Txc} {ts : List Txn} (h : OT B w zs ts) {c : Txc} {t : Txn} (hi : c.i = t.id) (hd : c.d = t.dn) (ho : OwnOpr B w (.slice c.s.1 c.s.2.1 c.s.2.2) t.ops) : OT B w (zs ++ [c]) (ts ++ [t]) := by
  refine ⟨by simp [h.1], fun k hk => ?_⟩
  by_cases hlt : k < ts.length
  · have e1 : (zs ++ [c]).getD k Txc.zero = zs.getD k Txc.zero := by rw [List.getD_eq_getElem?_getD, List.getD_eq_getElem?_getD, List.getElem?_append_left (by rw [h.1]; exact hlt)]
    have e2 : (ts ++ [t]).getD k Txn.zero = ts.getD k Txn.zero := by rw [List.getD_eq_getElem?_getD, List.getD_eq_getElem?_getD, List.getElem?_append_left hlt]
    rw [e1, e2]
    exact h.2 k hlt
  · have hk' : k = ts.length := by simp at hk; omega
    have e1 : (zs ++ [c]).getD k Txc.zero = c := by rw [List.getD_eq_getElem?_getD, hk', ← h.1]; simp
    have e2 : (ts ++ [t]).getD k Txn.zero = t := by rw [List.getD_eq_getElem?_getD, hk']; simp
    rw [e1, e2]
    exact ⟨hi, hd, ho⟩
/-- On the way: the result's box, its own box, its transactions. -/
def DI (w wr : World) (u v : Value) (zs : List Txc) (ts : List Txn) : Prop :=
  wr.heap[w.heap.size + 1]? = some (boxHi (.slice none 0 0) (.slice none 0 0)) ∧ wr.heap[w.heap.size + 1 + 1]? = some (boxHi v u) ∧ OwnTxc (w.heap.size + 3) wr v zs ∧ OT (w.heap.size + 3) wr zs ts ∧ Aft w wr
theorem DI.below {w wr w' : World} {u v : Value} {zs : List Txc} {ts : List Txn} (h : DI w wr u v zs ts) (hb : Aft wr w') : DI w w' u v zs ts :=
  ⟨(hb.block _ (heap_lt h.1)).trans h.1, (hb.block _ (heap_lt h.2.1)).trans h.2.1, h.2.2.1.below hb, h.2.2.2.1.below hb, h.2.2.2.2.trans hb⟩
theorem DI.room {w wr : World} {u v : Value} {zs : List Txc} {ts : List Txn} (h : DI w wr u v zs ts) (o : Obj) : w.heap.size + 3 ≤ (wr.alloc o).heap.size := by
  have := heap_lt h.2.1
  simp
  omega
theorem DI.lay {w wr : World} {u v : Value} {zs : List Txc} {ts : List Txn} (h : DI w wr u v zs ts) (o : Obj) : DI w (wr.alloc o) u v zs ts := h.below (Aft.one o)
theorem ownOpr_base {B : Nat} {w : World} {s : Value} {l : List Opr} (h : OwnOpr B w s l) {g : Nat} (hg : g < B) : s.ownBlock = none ∨ s.ownBlock ≠ some g := .inr fun e => by have := (h.base _ e).1; omega
theorem DI.app {w wr w' : World} {u v v' : Value} {zs : List Txc} {ts : List Txn} (h : DI w wr u v zs ts) {c : Txc} {t : Txn} (hi : c.i = t.id) (hd : c.d = t.dn) (hop : OwnOpr (w.heap.size + 3) wr (.slice c.s.1 c.s.2.1 c.s.2.2) t.ops) (ho : OwnTxc (w.heap.size + 3) w' v' (zs ++ [c])) (hg : wr.grownBy w' v.ownBlock) :
    (w'.cell? ⟨w.heap.size + 1 + 1, 0, none⟩ = some v ∧ w'.frozen? ⟨w.heap.size + 1 + 1, 0, none⟩ = false) ∧ DI w (w'.setCell ⟨w.heap.size + 1 + 1, 0, none⟩ v') u v' (zs ++ [c]) (ts ++ [t]) := by
  have hne : ∀ j, j ≤ w.heap.size + 1 + 1 → some j ≠ v.ownBlock := fun j hj e => by have := (World.ownsRow.lt h.2.2.1 j e.symm).1; omega
  have h1 : w'.heap[w.heap.size + 1]? = some (boxHi (.slice none 0 0) (.slice none 0 0)) := (hg.block _ (heap_lt h.1) (hne _ (by omega))).trans h.1
  have h2 : w'.heap[w.heap.size + 1 + 1]? = some (boxHi v u) := (hg.block _ (heap_lt h.2.1) (hne _ (by omega))).trans h.2.1
  have hs := storedHi h2 v'
  have hot : OT (w.heap.size + 3) w' (zs ++ [c]) (ts ++ [t]) := (h.2.2.2.1.snoc hi hd hop).kept hg fun s l hsl => own_apart h.2.2.1 hsl
  refine ⟨⟨(cellsHi h2).2.1.1, (cellsHi h2).2.2.1⟩, (hs.2.2.2.2.2 _ (by omega)).trans h1, hs.2.2.2.2.1, World.ownsRow.kept ho (row := some (w.heap.size + 1 + 1)) (stored_grown hs) (.inr fun e => by have := (World.ownsRow.lt ho _ e).1; omega), hot.kept (row := some (w.heap.size + 1 + 1)) (stored_grown hs) (fun s l hsl => ownOpr_base hsl (by omega)), ?_⟩
  exact hs.below (Below.grown h.2.2.2.2 hg h.2.2.2.2.size (fun k hk => by have := (World.ownsRow.lt h.2.2.1 k hk).1; omega)) (by omega)
/-- On the way to one transaction: its box, its operations. -/
def JN (w wr : World) (id : Int) (d : Bool) (v : Value) (zs : List Opr) : Prop :=
  wr.heap[w.heap.size + 1]? = some (boxT id d v) ∧ OwnOpr (w.heap.size + 2) wr v zs ∧ Aft w wr
theorem JN.lay {w wr : World} {id : Int} {d : Bool} {v : Value} {zs : List Opr} (h : JN w wr id d v zs) (o : Obj) : JN w (wr.alloc o) id d v zs :=
  ⟨heap_alloc_lt _ _ _ _ h.1, h.2.1.lay rfl o, h.2.2.lay o⟩
theorem JN.room {w wr : World} {id : Int} {d : Bool} {v : Value} {zs : List Opr} (h : JN w wr id d v zs) (o : Obj) : w.heap.size + 2 ≤ (wr.alloc o).heap.size := by
  have := heap_lt h.1
  simp
  omega
theorem JN.app {w wr w' : World} {id : Int} {d : Bool} {v v' : Value} {zs zs' : List Opr} (h : JN w wr id d v zs) (ho : OwnOpr (w.heap.size + 2) w' v' zs') (hg : wr.grownBy w' v.ownBlock) :
    (w'.cell? ⟨w.heap.size + 1, 2, none⟩ = some v ∧ w'.frozen? ⟨w.heap.size + 1, 2, none⟩ = false) ∧ JN w (w'.setCell ⟨w.heap.size + 1, 2, none⟩ v') id d v' zs' := by
  have h2 : w'.heap[w.heap.size + 1]? = some (boxT id d v) := (hg.block _ (heap_lt h.1) (fun e => by have := (h.2.1.base _ e.symm).1; omega)).trans h.1
  have hs := storedT_ops h2 v'
  refine ⟨⟨(cellsT h2).2.1.2.2, (cellsT h2).2.2.2.2⟩, hs.2.2.2.2.1, ho.kept (row := some (w.heap.size + 1)) (stored_grown hs) (.inr fun e => by have := (ho.base _ e).1; omega), ?_⟩
  exact hs.below (Below.grown h.2.2 hg h.2.2.size (fun k hk => by have := (h.2.1.base k hk).1; omega)) (by omega)
def boxO (x : Opr) : Obj := .cells #[.bool x.rd, .int .i64 x.k, .int .i64 x.t, .int .i64 x.n] 55
theorem JN.box {w wr w' : World} {id : Int} {d : Bool} {v : Value} {zs : List Opr} (h : JN w wr id d v zs) (x : Opr) (o : Obj) (hg : ((wr.alloc (boxO x)).alloc o).grownBy w' v.ownBlock) (v' : Value) :
    ((w'.setCell ⟨w.heap.size + 1, 2, none⟩ v').cell? ⟨wr.heap.size, 0, none⟩ = some (.bool x.rd) ∧ (w'.setCell ⟨w.heap.size + 1, 2, none⟩ v').cell? ⟨wr.heap.size, 1, none⟩ = some (.int .i64 x.k) ∧ (w'.setCell ⟨w.heap.size + 1, 2, none⟩ v').cell? ⟨wr.heap.size, 2, none⟩ = some (.int .i64 x.t) ∧ (w'.setCell ⟨w.heap.size + 1, 2, none⟩ v').cell? ⟨wr.heap.size, 3, none⟩ = some (.int .i64 x.n)) ∧ wr.heap.size < (w'.setCell ⟨w.heap.size + 1, 2, none⟩ v').heap.size := by
  have h0 : ((wr.alloc (boxO x)).alloc o).heap[wr.heap.size]? = some (boxO x) := heap_alloc_lt _ _ _ _ (heap_alloc_at _ _ _ rfl)
  have h1 : w'.heap[wr.heap.size]? = some (boxO x) := (hg.block _ (heap_lt h0) (fun e => by have := (h.2.1.base _ e.symm).2; omega)).trans h0
  have h2 : (w'.setCell ⟨w.heap.size + 1, 2, none⟩ v').heap[wr.heap.size]? = some (boxO x) := (Below.heap_setCell _ _ _ _ (by have := heap_lt h.1; show wr.heap.size ≠ w.heap.size + 1; omega)).trans h1
  refine ⟨?_, heap_lt h2⟩
  unfold boxO at h2
  simp [World.cell?, h2]
theorem hist_of {w wr : World} {B : Nat} {u v : Value} {zs : List Txc} {h : Hist} (ho : Ords w u h.ords) (hl : h.txs.length ≤ 100000) (h3 : OwnTxc B wr v zs) (h4 : OT B wr zs (twoH h).txs) (h5 : Aft w wr) : HistV wr v u (twoH h) := by
  have hlen : (twoH h).txs.length ≤ 100000 := by show (h.txs.map twoT).length ≤ _; rw [List.length_map]; exact hl
  refine ⟨?_, ho.below h5⟩
  generalize (twoH h).txs = ts at h4 hlen ⊢
  obtain ⟨e1, hk⟩ := h4
  obtain ⟨p, c, hv, hc, hp⟩ := ownTxc_slice h3
  have hL := h3.list (by omega)
  rw [e1] at hv hc
  refine ⟨⟨p, c, hv, hc, hp, by omega⟩, fun k hkt => ?_⟩
  rcases hL with ⟨_, h0⟩ | ⟨g, o, c', hv', _, hg, _, hcell⟩
  · rw [h0] at e1
    simp at e1
    omega
  · rw [e1] at hv' hcell
    obtain ⟨a0, a1, a2⟩ := hcell k hkt
    obtain ⟨i1, i2, i3⟩ := hk k hkt
    rw [i1] at a0
    rw [i2] at a1
    obtain ⟨ps, cs, hs, hcs⟩ := ownOpr_slice i3
    have hn : (ts.getD k Txn.zero).ops.length ≤ 9223372036854775807 := by
      rcases i3.2 with ⟨_, h0⟩ | ⟨_, _, _, _, _, _, _, hm, _⟩
      · omega
      · simp only [maxLen] at hm; omega
    exact ⟨g, o, c', hv', hg, a0, a1, _, a2, ⟨⟨ps, cs, hs, hcs⟩, (i3.list hn).mono (Nat.zero_le _)⟩⟩
/-- What doubled leaves. -/
def DblP (h : Hist) (u : Value) (w : World) (e : Ending) (w' : World) : Prop := ∃ v, e = .returned (.agg #[v, u]) ∧ HistV w' v u (twoH h) ∧ Aft w w'
end Go.Proofs.Ytfdaekppheabeaa.Dg
namespace Go.Proofs.Ytfdaekppheabeaa.Dg
open Go.ChangeShapes Go.WideShapes Go.ChangeAt Go.RowKit Base F Tx Hi Off
set_option maxRecDepth 100000 in
set_option maxHeartbeats 16000000 in
theorem doubled_any {v u : Value} {h : Hist} (w : World) (hh : HistV w v u h) (hl : h.txs.length ≤ 100000) (hlo : ∀ t ∈ h.txs, t.ops.length ≤ 10000) : Calls Try.prog 9 #[.agg #[v, u]] w (DblP h u w) := by
  obtain ⟨p, c, hv, _⟩ := hh.1.form
  obtain ⟨q, d, hu, _⟩ := hh.2.form
  subst hv hu
  have HT : Hid (Txs w (.slice p h.txs.length c) h.txs) := Lib.hid hh.1
  have HLO := Lib.hid hlo
  obtain ⟨on, hon⟩ : ∃ n, n = h.ords.length := ⟨_, rfl⟩
  have HE : Hid (∀ v' zs w1 w', DI w w1 (.slice q on d) v' zs (twoH h).txs → Stored w1 (w.heap.size + 1) (boxHi v' (.slice q on d)) w' → w'.heap[w.heap.size + 1]? = some (boxHi v' (.slice q on d)) ∧ DblP h (.slice q on d) w (.returned (.agg #[v', .slice q on d])) w') := Lib.hid fun v' zs w1 w' h1 h2 => by
    refine ⟨h2.2.2.2.2.1, v', rfl, ?_, h2.below h1.2.2.2.2 (by omega)⟩
    have hg : OwnTxc (w.heap.size + 3) w' v' zs := World.ownsRow.kept h1.2.2.1 (row := some (w.heap.size + 1)) (stored_grown h2) (.inr fun e => by have := (World.ownsRow.lt h1.2.2.1 _ e).1; omega)
    have ho : OT (w.heap.size + 3) w' zs (twoH h).txs := h1.2.2.2.1.kept (row := some (w.heap.size + 1)) (stored_grown h2) (fun s l hsl => ownOpr_base hsl (by omega))
    exact hist_of (w := w) (by rw [hon]; exact hh.2) hl hg ho (h2.below h1.2.2.2.2 (by omega))
  rw [← hon]
  clear hh hlo hon
  obtain ⟨xs, hxs⟩ : ∃ l, l = h.txs := ⟨_, rfl⟩
  have HTW : Hid ((twoH h).txs = xs.map twoT) := Lib.hid (by rw [hxs]; rfl)
  rw [← hxs] at hl HT HLO ⊢
  rw [HTW.out] at HE
  generalize DblP h (.slice q on d) w = Post at HE ⊢
  clear hxs HTW
  go_enter Try.func9, Try.ntmps9
  go_wp2
  go_loopw [15] (fun s15 wr => ∃ (k : Nat) (v : Value) (zs : List Txc), s15 = .int .i64 (k : Int) ∧ k ≤ xs.length ∧ zs.length = k ∧ Hid (DI w wr (.slice q on d) v zs ((xs.take k).map twoT))) (fun s15 _ => xs.length - (intOf s15).toNat)
  case atStart => exact ⟨0, .slice none 0 0, [], rfl, Nat.zero_le _, rfl, Lib.hid ⟨heap_alloc_lt _ _ _ _ (heap_alloc_at _ _ _ (by simp)), heap_alloc_at _ _ _ (by simp), World.ownsRow_nil _ _ _ _, ⟨rfl, fun k hk => absurd hk (by simp)⟩, ((Aft.one _).lay _).lay _⟩⟩
  case round =>
    obtain ⟨k, v, zs, rfl, hk, hzk, HD⟩ := hrel
    obtain ⟨wA, hwA⟩ : ∃ wA, wA = wr := ⟨_, rfl⟩
    subst hwA
    by_cases hlt : k < xs.length
    · obtain ⟨g, o, sp, sc, rfl, hg, c0, c1, c2, hs⟩ := HT.out.at_ hlt
      have hAw := HD.out.2.2.2.2
      have c0 := hAw.cell hg c0
      have c1 := hAw.cell hg c1
      have c2 := hAw.cell hg c2
      have hs := hs.below hAw
      have hg := Nat.lt_of_lt_of_le hg hAw.size
      have hkI : (k : Int) < (xs.length : Int) := by omega
      have HSN : Hid ((xs.take (k + 1)).map twoT = (xs.take k).map twoT ++ [twoT (xs.getD k Txn.zero)]) := Lib.hid (by rw [take_snoc xs Txn.zero k hlt, List.map_append]; rfl)
      have HLK : Hid ((xs.getD k Txn.zero).ops.length ≤ 10000) := Lib.hid (HLO.out _ (getD_mem' _ hlt))
      generalize xs.getD k Txn.zero = t at c0 c1 c2 hs HSN HLK
      obtain ⟨ti, td, l⟩ := t
      dsimp only at c0 c1 c2 hs HLK
      have HC := Lib.hid hs.2
      obtain ⟨ln, hln⟩ : ∃ n, n = l.length := ⟨_, rfl⟩
      have HLN := Lib.hid hln
      have hl10 : ln ≤ 10000 := by have := HLK.out; omega
      rw [← hln] at c2 HC
      clear hs hAw hln
      have HJ0 : Hid (∀ o, JN wA ((wA.alloc o).alloc (boxT ti td (.slice none 0 0))) ti td (.slice none 0 0) []) := Lib.hid fun o => ⟨heap_alloc_at _ _ _ (by simp), OwnOpr.nil _ _, (Aft.one _).lay _⟩
      unfold boxT at HJ0
      go_wp2
      go_loopw [27] (fun s27 wi => ∃ (j : Nat) (z : Value) (ys : List Opr), s27 = .int .i64 (j : Int) ∧ j ≤ ln ∧ ys.length ≤ 2 * j ∧ Hid (ys = two (l.take j)) ∧ Hid (JN wA wi ti td z ys)) (fun s27 _ => ln - (intOf s27).toNat)
      case atStart => exact ⟨0, _, [], rfl, Nat.zero_le _, Nat.zero_le _, Lib.hid rfl, Lib.hid (HJ0.out _)⟩
      case round =>
        clear HJ0
        obtain ⟨j, z, ys, rfl, hj, hyl, HY, HJ⟩ := hrel
        obtain ⟨wi, hwi⟩ : ∃ wi, wi = wr := ⟨_, rfl⟩
        subst hwi
        by_cases hjt : j < ln
        · obtain ⟨p2, cc2, he2, _, hat⟩ := HC.out.open_
          injection he2 with e1 e2 e3
          subst e1 e3
          obtain ⟨g', o', rfl, _, hg', d0, d1, d2, d3⟩ := hat j (by have := HLN.out; omega)
          have d0 := HJ.out.2.2.cell hg' d0
          have d1 := HJ.out.2.2.cell hg' d1
          have d2 := HJ.out.2.2.cell hg' d2
          have d3 := HJ.out.2.2.cell hg' d3
          have hg' := Nat.lt_of_lt_of_le hg' HJ.out.2.2.size
          have hjI : (j : Int) < (ln : Int) := by omega
          have HS : Hid (two (l.take (j + 1)) = ys ++ two1 (l.getD j Opr.zero)) := Lib.hid (by rw [two_take l j (by have := HLN.out; omega), HY.out])
          clear hat e2 HY
          generalize l.getD j Opr.zero = x at d0 d1 d2 d3 HS
          have HJ2 : Hid (∀ o, JN wA (wi.alloc o) ti td z ys) := Lib.hid fun o => HJ.out.lay o
          have HJL : Hid (j < ln ∧ ys.length ≤ 2 * j) := Lib.hid ⟨hjt, hyl⟩
          have h2 := (cellsT HJ.out.1).2.1.2.2
          have h2l := (cellsT HJ.out.1).1
          obtain ⟨xr, xk, xt, xn⟩ := x
          have HBX : Hid (∀ o w' v', ((wi.alloc (boxO ⟨xr, xk, xt, xn⟩)).alloc o).grownBy w' z.ownBlock → ((w'.setCell ⟨wA.heap.size + 1, 2, none⟩ v').cell? ⟨wi.heap.size, 0, none⟩ = some (.bool xr) ∧ (w'.setCell ⟨wA.heap.size + 1, 2, none⟩ v').cell? ⟨wi.heap.size, 1, none⟩ = some (.int .i64 xk) ∧ (w'.setCell ⟨wA.heap.size + 1, 2, none⟩ v').cell? ⟨wi.heap.size, 2, none⟩ = some (.int .i64 xt) ∧ (w'.setCell ⟨wA.heap.size + 1, 2, none⟩ v').cell? ⟨wi.heap.size, 3, none⟩ = some (.int .i64 xn)) ∧ wi.heap.size < (w'.setCell ⟨wA.heap.size + 1, 2, none⟩ v').heap.size) := Lib.hid fun o w' v' hg => HJ.out.box ⟨xr, xk, xt, xn⟩ o hg v'
          cases xr with
          | true =>
            have HZ2 : Hid ((ys ++ [(⟨true, xk, xt, xn⟩ : Opr)]) ++ [(⟨true, xk, xt, xn⟩ : Opr)] = two (l.take (j + 1))) := Lib.hid (by rw [HS.out, List.append_assoc]; rfl)
            clear HS
            go_wp2_with (first | (at_builtin; refine append_oprs rfl (.tmp 32) (.tmp 34) rfl ((HJ2.out _).room _) ((HJ2.out _).lay _).2.1 rfl (opr_at ⟨true, xk, xt, xn⟩ (heap_alloc_at _ _ _ (by simp))) rfl (by have := HLK.out; have := HLN.out; simp only [List.length_cons, List.length_nil]; omega) ?_; intro v5 w5 h5 hg5 _; obtain ⟨p5, c5, hv5, _⟩ := ownOpr_slice h5; obtain ⟨n5, hn5⟩ : ∃ n, n = (ys ++ [(⟨true, xk, xt, xn⟩ : Opr)]).length := ⟨_, rfl⟩; rw [← hn5] at hv5; subst hv5; clear hn5; obtain ⟨⟨e1, e2⟩, e3⟩ := ((HJ2.out _).lay _).app h5 hg5; have H5 := Lib.hid e3; obtain ⟨⟨b0, b1, b2, b3⟩, bl⟩ := HBX.out _ w5 (.slice p5 n5 c5) hg5; have f2 := (cellsT e3.1).2.1.2.2; have f2l := (cellsT e3.1).1; clear h5 hg5 e3) | (at_builtin; (refine append_oprs rfl (.tmp 40) (.tmp 42) rfl (H5.out.room _) (H5.out.lay _).2.1 rfl (opr_at ⟨true, xk, xt, xn⟩ (heap_alloc_at _ _ _ (by simp))) rfl (by have := HLK.out; have := HLN.out; simp only [List.length_append, List.length_cons, List.length_nil]; omega) ?_; intro v6 w6 h6 hg6 _; obtain ⟨p6, c6, hv6, _⟩ := ownOpr_slice h6; obtain ⟨n6, hn6⟩ : ∃ n, n = ((ys ++ [(⟨true, xk, xt, xn⟩ : Opr)]) ++ [(⟨true, xk, xt, xn⟩ : Opr)]).length := ⟨_, rfl⟩; rw [← hn6] at hv6; subst hv6; clear hn6; obtain ⟨⟨e1, e2⟩, e3⟩ := (H5.out.lay _).app h6 hg6; have H6 := Lib.hid e3; clear h6 hg6 e3 f2 f2l b0 b1 b2 b3 bl)))
            obtain ⟨jl, yl⟩ := HJL.out
            go_roundw
            case rel => exact ⟨j + 1, _, _, by go_num, by omega, by simp only [List.length_append, List.length_cons, List.length_nil]; omega, HZ2, H6⟩
            case measure => simp [intOf]; omega
          | false =>
            have HZ2 : Hid (ys ++ [⟨false, xk, xt, xn⟩] = two (l.take (j + 1))) := Lib.hid (by rw [HS.out]; rfl)
            clear HS
            go_wp2_with (at_builtin; refine append_oprs rfl (.tmp 32) (.tmp 34) rfl ((HJ2.out _).room _) ((HJ2.out _).lay _).2.1 rfl (opr_at ⟨false, xk, xt, xn⟩ (heap_alloc_at _ _ _ (by simp))) rfl (by have := HLK.out; have := HLN.out; simp only [List.length_cons, List.length_nil]; omega) ?_; intro v5 w5 h5 hg5 _; obtain ⟨p5, c5, hv5, _⟩ := ownOpr_slice h5; obtain ⟨n5, hn5⟩ : ∃ n, n = (ys ++ [(⟨false, xk, xt, xn⟩ : Opr)]).length := ⟨_, rfl⟩; rw [← hn5] at hv5; subst hv5; clear hn5; obtain ⟨⟨e1, e2⟩, e3⟩ := ((HJ2.out _).lay _).app h5 hg5; have H5 := Lib.hid e3; obtain ⟨⟨b0, b1, b2, b3⟩, bl⟩ := HBX.out _ w5 (.slice p5 n5 c5) hg5; clear h5 hg5 e3)
            obtain ⟨jl, yl⟩ := HJL.out
            go_roundw
            case rel => exact ⟨j + 1, _, ys ++ [⟨false, xk, xt, xn⟩], by go_num, by omega, by simp only [List.length_append, List.length_cons, List.length_nil]; omega, HZ2, H5⟩
            case measure => simp [intOf]; omega
        · have hZ : ys = two l := by rw [HY.out, List.take_of_length_le (by have := HLN.out; omega)]
          obtain ⟨pz, cz, rfl, _⟩ := ownOpr_slice HJ.out.2.1
          obtain ⟨yn, hyn⟩ : ∃ n, n = ys.length := ⟨_, rfl⟩
          rw [← hyn] at HJ
          have HDW : Hid (DI w wi (.slice q on d) v zs ((xs.take k).map twoT)) := Lib.hid (HD.out.below HJ.out.2.2)
          have HRM : Hid (w.heap.size + 3 ≤ wA.heap.size) := Lib.hid (by have := heap_lt HD.out.2.1; omega)
          have HDA : Hid (∀ o v5 w5, OwnTxc (w.heap.size + 3) w5 v5 (zs ++ [(⟨ti, td, (pz, yn, cz)⟩ : Txc)]) → (wi.alloc o).grownBy w5 v.ownBlock → (w5.cell? ⟨w.heap.size + 1 + 1, 0, none⟩ = some v ∧ w5.frozen? ⟨w.heap.size + 1 + 1, 0, none⟩ = false) ∧ DI w (w5.setCell ⟨w.heap.size + 1 + 1, 0, none⟩ v5) (.slice q on d) v5 (zs ++ [(⟨ti, td, (pz, yn, cz)⟩ : Txc)]) ((xs.take (k + 1)).map twoT)) := Lib.hid fun o v5 w5 h5 hg5 => by
            rw [HSN.out]
            refine (HDW.out.lay o).app rfl rfl ?_ h5 hg5
            show OwnOpr _ _ (.slice pz yn cz) (two l)
            rw [← hZ]
            exact ownOpr_mono (HJ.out.lay o).2.1 (by have := HRM.out; omega)
          have HKL : Hid (k < xs.length ∧ zs.length ≤ 100000) := Lib.hid ⟨hlt, by omega⟩
          have h2 := (cellsHi HDW.out.2.1).2.1.1
          have h2l := (cellsHi HDW.out.2.1).1
          obtain ⟨e1l, ⟨e1, e2, e3⟩, _⟩ := cellsT HJ.out.1
          clear HY hZ HSN HC c0 c1 c2 hg hyl hyn
          go_wp2_with (at_builtin; (refine append_txcs rfl (.tmp 47) (.tmp 49) rfl (HDW.out.room _) (HDW.out.lay _).2.2.1 rfl (txc_at ⟨ti, td, (pz, yn, cz)⟩ (heap_alloc_at _ _ _ rfl)) rfl (by have := HKL.out.2; simp only [List.length_cons, List.length_nil]; omega) ?_; intro v5 w5 h5 hg5 _; obtain ⟨p5, c5, hv5, _⟩ := ownTxc_slice h5; obtain ⟨n5, hn5⟩ : ∃ n, n = (zs ++ [(⟨ti, td, (pz, yn, cz)⟩ : Txc)]).length := ⟨_, rfl⟩; rw [← hn5] at hv5; subst hv5; clear hn5; obtain ⟨⟨f1, f2⟩, f3⟩ := HDA.out _ _ _ h5 hg5; have H5 := Lib.hid f3; clear h5 hg5 f3))
          obtain ⟨kl, zl⟩ := HKL.out
          go_roundw
          case rel => exact ⟨k + 1, _, _, by go_num, by omega, by simp only [List.length_append, List.length_cons, List.length_nil]; omega, H5⟩
          case measure => simp [intOf]; omega
    · have hke : xs.take k = xs := List.take_of_length_le (by omega)
      rw [hke] at HD
      obtain ⟨pv, cv, rfl, _⟩ := ownTxc_slice HD.out.2.2.1
      obtain ⟨zn, hzn⟩ : ∃ n, n = zs.length := ⟨_, rfl⟩
      rw [← hzn] at HD
      obtain ⟨e1, ⟨e2, e3⟩, _⟩ := cellsHi HD.out.2.1
      have HE2 : Hid (∀ w', Stored wA (w.heap.size + 1) (boxHi (.slice pv zn cv) (.slice q on d)) w' → w'.heap[w.heap.size + 1]? = some (boxHi (.slice pv zn cv) (.slice q on d)) ∧ Post (.returned (.agg #[.slice pv zn cv, .slice q on d])) w') := Lib.hid fun w' h => HE.out _ _ _ _ HD.out h
      have HB0 := Lib.hid HD.out.1
      clear HE HD hzn hzk hke
      go_wp2_with (refine wpList_store_hi rfl (.tmp 2) (.tmp 53) rfl (w.heap.size + 1) pv zn cv q on d _ rfl rfl HB0.out rfl ?_; intro w4 hst; have HX := Lib.hid (HE2.out _ hst); clear hst)
      exact bodyPost_ret (v := .agg #[.slice pv zn cv, .slice q on d]) (results_hi Try.results9 _ _ (w.heap.size + 1) _ _ rfl HX.out.1) rfl HX.out.2
end Go.Proofs.Ytfdaekppheabeaa.Dg
namespace Go.Proofs.Ytfdaekppheabeaa.Dg
open Go.ChangeShapes Go.WideShapes Go.ChangeAt Go.RowKit Base F Tx Hi
open Pk (OwnE)
def PlP (l : List Hvy) (w : World) (e : Ending) (w' : World) : Prop := ∃ v, e = .returned v ∧ OwnE w.heap.size w' v (l.map fun x => toE (edH x)) ∧ Aft w w'
end Go.Proofs.Ytfdaekppheabeaa.Dg
