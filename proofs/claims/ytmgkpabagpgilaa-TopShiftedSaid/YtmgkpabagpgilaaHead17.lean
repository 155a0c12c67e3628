/-
  Contracts of small functions, several texts laid into one. Not a statement of the seat.
-/
import Derived.Test.YtmgkpabagpgilaaHead14
import Derived.Test.YtmgkpabagpgilaaHead13
import Derived.Test.YtmgkpabagpgilaaHead16
import Derived.Test.YtmgkpabagpgilaaHead2
namespace Go.Proofs.Ytmgkpabagpgilaa.Dg
open F Tx Hi Off
/-- Sums over lists. -/
def sm {α : Type} (f : α → Nat) : List α → Nat
  | [] => 0
  | x :: l => f x + sm f l
section
variable {α β : Type}
theorem sm_zero (l : List α) : sm (fun _ => 0) l = 0 := by
  induction l with
  | nil => rfl
  | cons x l ih => rw [sm, ih]
theorem sm_congr {f g : α → Nat} {l : List α} (h : ∀ x ∈ l, f x = g x) : sm f l = sm g l := by
  induction l with
  | nil => rfl
  | cons x l ih => rw [sm, sm, h x List.mem_cons_self, ih fun y hy => h y (List.mem_cons_of_mem _ hy)]
theorem sm_add (f g : α → Nat) (l : List α) : sm (fun x => f x + g x) l = sm f l + sm g l := by
  induction l with
  | nil => rfl
  | cons x l ih => simp only [sm]; rw [ih]; omega
theorem sm_comm (f : α → β → Nat) (l : List α) (m : List β) : sm (fun a => sm (f a) m) l = sm (fun b => sm (fun a => f a b) l) m := by
  induction l with
  | nil => simp only [sm]; rw [sm_zero]
  | cons x l ih => simp only [sm]; rw [ih, sm_add]
theorem sm_append (f : α → Nat) (l m : List α) : sm f (l ++ m) = sm f l + sm f m := by
  induction l with
  | nil => simp [sm]
  | cons x l ih => simp only [List.cons_append, sm]; rw [ih]; omega
theorem sm_take (f : α → Nat) (z : α) (l : List α) (k : Nat) (h : k < l.length) : sm f (l.take (k + 1)) = sm f (l.take k) + f (l.getD k z) := by
  rw [Tx.take_snoc l z k h, sm_append]
  simp [sm]
theorem sm_map (f : β → Nat) (g : α → β) (l : List α) : sm f (l.map g) = sm (fun x => f (g x)) l := by
  induction l with
  | nil => rfl
  | cons x l ih => simp only [List.map_cons, sm]; rw [ih]
theorem sm_le (f : α → Nat) (b : Nat) (l : List α) (h : ∀ x ∈ l, f x ≤ b) : sm f l ≤ b * l.length := by
  induction l with
  | nil => simp [sm]
  | cons x l ih =>
    have h1 := ih fun y hy => h y (List.mem_cons_of_mem _ hy)
    have h2 := h x List.mem_cons_self
    rw [sm, List.length_cons, Nat.mul_succ]
    omega
theorem sm_length (l : List α) : sm (fun _ => 1) l = l.length := by
  induction l with
  | nil => rfl
  | cons x l ih => rw [sm, ih, List.length_cons]; omega
theorem sm_filter (p : α → Bool) (l : List α) : (l.filter p).length = sm (fun x => if p x = true then 1 else 0) l := by
  induction l with
  | nil => rfl
  | cons x l ih =>
    rw [sm, ← ih, List.filter_cons]
    split <;> simp [*] <;> omega
theorem sm_none [DecidableEq α] (z : α) (l : List α) (h : z ∉ l) : sm (fun x => if x = z then 1 else 0) l = 0 := by
  induction l with
  | nil => rfl
  | cons x l ih =>
    rw [sm, ih fun hh => h (List.mem_cons_of_mem _ hh), if_neg fun e => h (by rw [e]; exact List.mem_cons_self)]
/-- One of a list in which none stands twice. -/
theorem sm_one [DecidableEq α] (z : α) (l : List α) (hn : l.Nodup) (h : z ∈ l) : sm (fun x => if x = z then 1 else 0) l = 1 := by
  induction l with
  | nil => cases h
  | cons x l ih =>
    obtain ⟨h1, h2⟩ := List.nodup_cons.1 hn
    rw [sm]
    by_cases e : x = z
    · rw [if_pos e, sm_none z l (e ▸ h1)]
    · rw [if_neg e, ih h2 (by
        rcases List.mem_cons.1 h with h | h
        · exact absurd h.symm e
        · exact h)]
theorem sm_pos {f : α → Nat} {l : List α} {x : α} (hx : x ∈ l) : f x ≤ sm f l := by
  induction l with
  | nil => cases hx
  | cons y l ih =>
    rw [sm]
    rcases List.mem_cons.1 hx with rfl | h
    · omega
    · have := ih h
      omega
theorem sm_some {f : α → Nat} {l : List α} (h : sm f l ≠ 0) : ∃ x, x ∈ l ∧ f x ≠ 0 := by
  induction l with
  | nil => exact absurd rfl h
  | cons y l ih =>
    by_cases h0 : f y = 0
    · rw [sm, h0, Nat.zero_add] at h
      obtain ⟨x, h1, h2⟩ := ih h
      exact ⟨x, List.mem_cons_of_mem _ h1, h2⟩
    · exact ⟨y, List.mem_cons_self, h0⟩
end
def toE (e : Edg) : Pk.E := (e.f, e.t, e.kd, e.k)
def ofE (x : Pk.E) : Edg := ⟨x.1, x.2.1, x.2.2.1, x.2.2.2⟩
theorem ofE_toE (e : Edg) : ofE (toE e) = e := rfl
theorem toE_ofE (x : Pk.E) : toE (ofE x) = x := rfl
theorem ofE_inj {x y : Pk.E} (h : ofE x = ofE y) : x = y := by rw [← toE_ofE x, h, toE_ofE]
def hvy (c : Edg → Nat) (x : Pk.E) : Hvy := ⟨x.1, x.2.1, x.2.2.1, x.2.2.2, ((c (ofE x) : Nat) : Int)⟩
def edH (x : Hvy) : Edg := ⟨x.f, x.t, x.kd, x.k⟩
/-- The list has all edges of which the count is not 0, in order, with their counts. -/
def Lists (c : Edg → Nat) (l : List Hvy) : Prop := ∃ ks : List Pk.E, Pk.Rises ks ∧ (∀ x, x ∈ ks ↔ c (ofE x) ≠ 0) ∧ l = ks.map (hvy c)
theorem Lists.one {c : Edg → Nat} {l m : List Hvy} (h1 : Lists c l) (h2 : Lists c m) : l = m := by
  obtain ⟨k1, a1, a2, rfl⟩ := h1
  obtain ⟨k2, b1, b2, rfl⟩ := h2
  rw [Pk.rises_ext a1 b1 fun x => (a2 x).trans (b2 x).symm]
theorem rises_nodup {l : List Pk.E} (h : Pk.Rises l) : l.Nodup := h.imp fun {a b} hab e => by
  rw [e, Pk.lt_irr] at hab
  cases hab
section
variable {c : Edg → Nat} {l : List Hvy}
theorem Lists.mem (h : Lists c l) {x : Hvy} (hx : x ∈ l) : x.n = ((c (edH x) : Nat) : Int) ∧ c (edH x) ≠ 0 := by
  obtain ⟨ks, _, h2, rfl⟩ := h
  obtain ⟨y, hy, rfl⟩ := List.mem_map.1 hx
  exact ⟨rfl, (h2 y).1 hy⟩
theorem Lists.has (h : Lists c l) {e : Edg} (he : c e ≠ 0) : hvy c (toE e) ∈ l := by
  obtain ⟨ks, _, h2, rfl⟩ := h
  exact List.mem_map.2 ⟨toE e, (h2 _).2 he, rfl⟩
theorem Lists.lt (h : Lists c l) {i : Nat} (h0 : 0 < i) (hi : i < l.length) : Pk.ltE (toE (edH (l.getD (i - 1) Hvy.zero))) (toE (edH (l.getD i Hvy.zero))) = true := by
  obtain ⟨ks, h1, _, rfl⟩ := h
  rw [List.length_map] at hi
  have := List.pairwise_iff_getElem.1 h1 (i - 1) i (by omega) hi (by omega)
  rw [List.getD_eq_getElem?_getD, List.getD_eq_getElem?_getD, List.getElem?_eq_getElem (by rw [List.length_map]; omega), List.getElem?_eq_getElem (by rw [List.length_map]; omega)]
  simpa [hvy, edH, toE] using this
/-- A sum of counts over some of the edges. -/
def tot (p : Hvy → Bool) (l : List Hvy) : Nat := sm (fun x => if p x = true then x.n.toNat else 0) l
theorem Lists.tot_eq (h : Lists c l) (p : Hvy → Bool) : ∃ ks : List Pk.E, ks.Nodup ∧ (∀ x, x ∈ ks ↔ c (ofE x) ≠ 0) ∧ tot p l = sm (fun x => if p (hvy c x) = true then c (ofE x) else 0) ks := by
  obtain ⟨ks, h1, h2, rfl⟩ := h
  refine ⟨ks, rises_nodup h1, h2, ?_⟩
  unfold tot
  rw [sm_map]
  rfl
end
theorem sumO_sm (nx : Int × Int → Option Int) (la : Int × Int → Int) (P : Int → Bool) (id : Int) (d : Bool) (e : Edg) : ∀ l, sumO nx la P id d l e = sm (fun o => rdE nx la P id d o e) l
  | [] => rfl
  | o :: l => by rw [sumO, sm, sumO_sm nx la P id d e l]
theorem sumT_sm (nx : Int × Int → Option Int) (la : Int × Int → Int) (P : Int → Bool) (e : Edg) : ∀ l, sumT nx la P l e = sm (fun t => sm (fun o => rdE nx la P t.id t.dn o e) t.ops) l
  | [] => rfl
  | t :: l => by rw [sumT, sm, sumT_sm nx la P e l, sumO_sm]
abbrev laF (h : Hist) (P : Int → Bool) : Int × Int → Int := fun q => ((laH P h.txs q.1 q.2 : Nat) : Int)
theorem cntE_right {h : Hist} (hr : rightH h = true) (P : Int → Bool) (e : Edg) : cntE h P e = wwF (nxH P h.ords) (fun _ => false) e + sm (fun t => sm (fun o => rdE (nxH P h.ords) (laF h P) P t.id t.dn o e) t.ops) h.txs := by
  unfold cntE
  rw [if_pos hr, sumT_sm]
theorem cntE_wrong {h : Hist} (hr : rightH h = false) (P : Int → Bool) (e : Edg) : cntE h P e = 0 := by
  unfold cntE
  rw [if_neg (by rw [hr]; simp)]
/-- What an edge with a reason is. -/
theorem cnt_some {h : Hist} {P : Int → Bool} {e : Edg} (hc : cntE h P e ≠ 0) : rightH h = true ∧ ((e.kd = 1 ∧ e.f ≠ 0 ∧ nxH P h.ords (e.f, e.k) = some e.t) ∨ ∃ t, t ∈ h.txs ∧ ∃ o, o ∈ t.ops ∧ rdC (laF h P) P t.id t.dn o = true ∧ o.k = e.k ∧ ((o.t ≠ 0 ∧ e = wrE t.id o) ∨ ∃ z, nxH P h.ords (o.t, o.k) = some z ∧ z ≠ t.id ∧ e = rwE t.id o z)) := by
  have hr : rightH h = true := by
    cases hr : rightH h with
    | true => rfl
    | false => exact absurd (cntE_wrong hr P e) hc
  refine ⟨hr, ?_⟩
  rw [cntE_right hr] at hc
  by_cases h1 : wwF (nxH P h.ords) (fun _ => false) e = 0
  · rw [h1, Nat.zero_add] at hc
    obtain ⟨t, ht, h2⟩ := sm_some hc
    obtain ⟨o, ho, h3⟩ := sm_some h2
    refine .inr ⟨t, ht, o, ho, ?_⟩
    unfold rdE at h3
    split at h3
    · rename_i hrd
      refine ⟨hrd, ?_⟩
      by_cases h4 : rdW t.id o e = 0
      · rw [h4, Nat.zero_add] at h3
        unfold rdR at h3
        split at h3
        · rename_i z hz
          split at h3
          · rename_i hh
            exact ⟨by rw [hh.2]; rfl, .inr ⟨z, hz, hh.1, hh.2⟩⟩
          · exact absurd rfl h3
        · exact absurd rfl h3
      · unfold rdW at h4
        split at h4
        · rename_i hh
          exact ⟨by rw [hh.2]; rfl, .inl hh⟩
        · exact absurd rfl h4
    · exact absurd rfl h3
  · unfold wwF at h1
    split at h1
    · rename_i hh
      exact .inl ⟨hh.1, hh.2.1, hh.2.2.1⟩
    · exact absurd rfl h1
theorem nxH_only (P : Int → Bool) {key : Int} (hP : P key = false) (a : Int) : ∀ (os : List Ordr) (F : Int × Int → Option Int), os.foldl (nxO P) F (a, key) = F (a, key)
  | [], F => rfl
  | o :: os, F => by
    rw [List.foldl_cons, nxH_only P hP a os]
    unfold nxO
    split
    · rename_i hp
      have hk : o.key ≠ key := fun e => by rw [e, hP] at hp; cases hp
      have : ∀ (l : List Int) (s : Int × (Int × Int → Option Int)), (l.foldl (nxS o.key) s).2 (a, key) = s.2 (a, key) := fun l => by
        induction l with
        | nil => intro s; rfl
        | cons x l ih =>
          intro s
          rw [List.foldl_cons, ih, nxS]
          show (if (a, key) = (s.1, o.key) then some x else s.2 (a, key)) = _
          rw [if_neg fun e => hk (congrArg Prod.snd e).symm]
      exact this _ _
    · rfl
/-- Key by key. -/
theorem cnt_key (h : Hist) (key : Int) (e : Edg) : cntE h (fun k => k == key) e = if e.k = key then cntE h (fun _ => true) e else 0 := by
  by_cases hk : e.k = key
  · rw [if_pos hk]
    cases hr : rightH h with
    | false => rw [cntE_wrong hr, cntE_wrong hr]
    | true =>
      have hnx : ∀ a k, k = key → nxH (fun k => k == key) h.ords (a, k) = nxH (fun _ => true) h.ords (a, k) := fun a k hk => by
        rw [nx_is hr (P := fun k => k == key) (by simpa using hk), nx_is hr (P := fun _ => true) rfl]
      have hla : ∀ t k, k = key → laH (fun k => k == key) h.txs t k = laH (fun _ => true) h.txs t k := fun t k hk => by
        clear hnx
        induction h.txs with
        | nil => rfl
        | cons x l ih =>
          rw [laH, laH, ih]
          unfold laT
          simp [hk]
      rw [cntE_right hr, cntE_right hr]
      congr 1
      · unfold wwF
        rw [hnx _ _ hk]
      · refine sm_congr fun t _ => sm_congr fun o _ => ?_
        by_cases hok : o.k = key
        · have e1 : rdC (laF h fun k => k == key) (fun k => k == key) t.id t.dn o = rdC (laF h fun _ => true) (fun _ => true) t.id t.dn o := by
            unfold rdC
            show (_ && (o.k == key) && decide (((laH (fun k => k == key) h.txs o.t o.k : Nat) : Int) = o.n)) = (_ && true && decide (((laH (fun _ => true) h.txs o.t o.k : Nat) : Int) = o.n))
            rw [hla _ _ hok, hok, beq_self_eq_true]
          have e2 : rdR (nxH (fun k => k == key) h.ords) t.id o e = rdR (nxH (fun _ => true) h.ords) t.id o e := by
            unfold rdR
            rw [hnx _ _ hok]
          unfold rdE
          rw [e1, e2]
        · have hw : rdW t.id o e = 0 := by
            unfold rdW wrE
            rw [if_neg]
            rintro ⟨_, rfl⟩
            exact hok hk
          have hrr : ∀ nx, rdR nx t.id o e = 0 := fun nx => by
            unfold rdR rwE
            split
            · rw [if_neg]
              rintro ⟨_, rfl⟩
              exact hok hk
            · rfl
          unfold rdE
          rw [hw, hrr, hrr]
          simp
  · rw [if_neg hk]
    apply Classical.byContradiction
    intro hc
    obtain ⟨hr, h1⟩ := cnt_some hc
    rcases h1 with ⟨_, _, hn⟩ | ⟨t, _, o, _, hrd, hok, _⟩
    · unfold nxH at hn
      rw [nxH_only (fun k => k == key) (by simpa using hk)] at hn
      cases hn
    · unfold rdC at hrd
      simp only [Bool.and_eq_true] at hrd
      have := hrd.1.2
      rw [hok] at this
      simp [hk] at this
theorem Lists.key {h : Hist} {l m : List Hvy} {key : Int} (h1 : Lists (cntE h (fun _ => true)) l) (h2 : Lists (cntE h (fun k => k == key)) m) : m = l.filter fun x => x.k == key := by
  refine h2.one ?_
  obtain ⟨ks, a1, a2, rfl⟩ := h1
  refine ⟨ks.filter (fun x => x.2.2.2 == key), a1.filter _, fun x => ?_, ?_⟩
  · rw [List.mem_filter, a2, cnt_key]
    have : (ofE x).k = x.2.2.2 := rfl
    rw [this]
    by_cases hk : x.2.2.2 = key <;> simp [hk]
  · rw [List.filter_map]
    show (ks.filter _).map _ = _
    refine List.map_congr_left fun x hx => ?_
    have hk := (List.mem_filter.1 hx).2
    unfold hvy
    have hk : x.2.2.2 = key := by simpa [hvy] using hk
    rw [cnt_key, if_pos (show (ofE x).k = key from hk)]
end Go.Proofs.Ytmgkpabagpgilaa.Dg
namespace Go.Proofs.Ytmgkpabagpgilaa.Dg
open F Tx Hi Off
theorem chain_mem : ∀ (l : List Int) (a0 a b : Int), chain a0 l a = some b → (a = a0 ∨ a ∈ l) ∧ b ∈ l
  | [], _, _, _, h => by cases h
  | x :: l, a0, a, b, h => by
    rw [chain] at h
    split at h
    · rename_i e
      injection h with h
      exact ⟨.inl e, by rw [← h]; exact List.mem_cons_self⟩
    · obtain ⟨h1, h2⟩ := chain_mem l x a b h
      refine ⟨.inr ?_, List.mem_cons_of_mem _ h2⟩
      rcases h1 with e | h1
      · rw [e]; exact List.mem_cons_self
      · exact List.mem_cons_of_mem _ h1
theorem chain_ne : ∀ (l : List Int) (a0 a b : Int), (a0 :: l).Nodup → chain a0 l a = some b → a ≠ b
  | [], _, _, _, _, h => by cases h
  | x :: l, a0, a, b, hn, h => by
    obtain ⟨h0, h1⟩ := List.nodup_cons.1 hn
    rw [chain] at h
    split at h
    · rename_i e
      injection h with h
      intro e2
      exact h0 (by rw [← e, e2, ← h]; exact List.mem_cons_self)
    · exact chain_ne l x a b h1 h
theorem nx_ch {h : Hist} (hr : rightH h = true) {P : Int → Bool} {key : Int} (hP : P key = true) (a : Int) : nxH P h.ords (a, key) = chain 0 (ordL h.ords key) a := by
  unfold nxH
  rw [nxH_chain P hP a h.ords _ (right_keys hr) fun o ho => (right_order hr ho).1]
  cases chain 0 (ordL h.ords key) a <;> rfl
/-- Who is next is one of an order of that key. -/
theorem nx_some {h : Hist} (hr : rightH h = true) {P : Int → Bool} {key a b : Int} (hn : nxH P h.ords (a, key) = some b) : ∃ o, o ∈ h.ords ∧ o.key = key ∧ chain 0 o.txs a = some b := by
  cases hP : P key with
  | false =>
    unfold nxH at hn
    rw [nxH_only P hP] at hn
    cases hn
  | true =>
    rw [nx_ch hr hP] at hn
    obtain ⟨_, hb⟩ := chain_mem _ _ _ _ hn
    obtain ⟨o, h1, h2, h3⟩ := ordL_mem hb
    exact ⟨o, h1, h2, by rw [← h3]; exact hn⟩
theorem nx_end {h : Hist} (hr : rightH h = true) {P : Int → Bool} {key a b : Int} (hn : nxH P h.ords (a, key) = some b) : a ≠ b ∧ (∃ t, findT h.txs b = some t ∧ t.dn = true ∧ 0 < wrN t.ops key) ∧ (a ≠ 0 → ∃ t, findT h.txs a = some t ∧ t.dn = true ∧ 0 < wrN t.ops key) := by
  obtain ⟨o, ho, hk, hc⟩ := nx_some hr hn
  obtain ⟨h1, h2⟩ := right_order hr ho
  obtain ⟨h3, h4⟩ := chain_mem _ _ _ _ hc
  subst hk
  refine ⟨chain_ne _ _ _ _ h1 hc, h2 b h4, fun h0 => ?_⟩
  rcases h3 with e | h3
  · exact absurd e h0
  · exact h2 a h3
theorem read_one {h : Hist} (hr : rightH h = true) {t : Txn} (ht : t ∈ h.txs) {o : Opr} (ho : o ∈ t.ops) (hrd : o.rd = true) (h0 : o.t ≠ 0) (h1 : o.t ≠ t.id) : 1 ≤ o.n := by
  obtain ⟨_, h2, _, _, _⟩ := right_iff.1 hr
  have hm : (⟨o.t, o.k, o.n⟩ : Ver) ∈ needsL t.id t.ops := needs_has t.ops [] ho hrd h0 h1
  exact (needs_bd (h2 t ht) hm).2
theorem rdC_iff {la : Int × Int → Int} {P : Int → Bool} {id : Int} {d : Bool} {o : Opr} : rdC la P id d o = true ↔ d = true ∧ o.rd = true ∧ o.t ≠ id ∧ P o.k = true ∧ la (o.t, o.k) = o.n := by
  unfold rdC
  simp only [Bool.and_eq_true, decide_eq_true_eq]
  constructor
  · rintro ⟨⟨⟨⟨a, b⟩, c⟩, d⟩, e⟩; exact ⟨a, b, c, d, e⟩
  · rintro ⟨a, b, c, d, e⟩; exact ⟨⟨⟨⟨a, b⟩, c⟩, d⟩, e⟩
theorem la_some {h : Hist} (hr : rightH h = true) {P : Int → Bool} {t k n : Int} (hn : laF h P (t, k) = n) (h1 : 1 ≤ n) : ∃ u, findT h.txs t = some u ∧ u.dn = true ∧ n = ((wrN u.ops k : Nat) : Int) := by
  obtain ⟨_, _, hp, _⟩ := right_iff.1 hr
  have hn : ((laH P h.txs t k : Nat) : Int) = n := hn
  cases hf : findT h.txs t with
  | none =>
    rw [laH_none P _ _ _ hf] at hn
    omega
  | some u =>
    rw [laH_some P _ _ _ _ hp hf] at hn
    unfold laT at hn
    split at hn
    · rename_i hd
      rw [Bool.and_eq_true] at hd
      exact ⟨u, rfl, hd.1, hn.symm⟩
    · omega
/-- An edge with a reason joins two that are done. -/
theorem cnt_ends {h : Hist} {P : Int → Bool} {e : Edg} (hc : cntE h P e ≠ 0) : ∃ a b, findT h.txs e.f = some a ∧ findT h.txs e.t = some b ∧ a.dn = true ∧ b.dn = true ∧ e.f ≠ e.t := by
  obtain ⟨hr, h1⟩ := cnt_some hc
  obtain ⟨_, _, hp, _⟩ := right_iff.1 hr
  rcases h1 with ⟨_, h0, hn⟩ | ⟨t, ht, o, ho, hrd, hok, h2⟩
  · obtain ⟨h3, ⟨b, hb, hbd, _⟩, h4⟩ := nx_end hr hn
    obtain ⟨a, ha, had, _⟩ := h4 h0
    exact ⟨a, b, ha, hb, had, hbd, h3⟩
  · obtain ⟨hd, hr1, hne, _, hla⟩ := rdC_iff.1 hrd
    rcases h2 with ⟨h0, rfl⟩ | ⟨z, hz, hzi, rfl⟩
    · obtain ⟨u, hu, hud, _⟩ := la_some hr hla (read_one hr ht ho hr1 h0 hne)
      exact ⟨u, t, hu, findT_in hp ht, hud, hd, hne⟩
    · obtain ⟨_, ⟨b, hb, hbd, _⟩, _⟩ := nx_end hr hz
      exact ⟨t, b, findT_in hp ht, hb, hd, hbd, fun e => hzi e.symm⟩
/-- Whether a read is of what was there at first, or of an installed version. -/
def lastB (h : Hist) (o : Opr) : Bool := if o.t = 0 then true else match findT h.txs o.t with
  | some u => u.dn && decide (o.n = ((wrN u.ops o.k : Nat) : Int))
  | none => false
theorem la_last {h : Hist} (hr : rightH h = true) {t : Txn} (ht : t ∈ h.txs) {o : Opr} (ho : o ∈ t.ops) (hrd : o.rd = true) (h0 : o.t ≠ 0) (h1 : o.t ≠ t.id) : decide (laF h (fun _ => true) (o.t, o.k) = o.n) = lastB h o := by
  obtain ⟨_, _, hp, _⟩ := right_iff.1 hr
  have hn := read_one hr ht ho hrd h0 h1
  unfold lastB
  rw [if_neg h0]
  cases hf : findT h.txs o.t with
  | none =>
    have : laF h (fun _ => true) (o.t, o.k) = 0 := by
      show ((laH _ _ _ _ : Nat) : Int) = 0
      rw [laH_none _ _ _ _ hf]
      rfl
    rw [this]
    exact decide_eq_false (by omega)
  | some u =>
    have : laF h (fun _ => true) (o.t, o.k) = ((laT (fun _ => true) u.dn u.ops o.k : Nat) : Int) := by
      show ((laH _ _ _ _ : Nat) : Int) = _
      rw [laH_some _ _ _ _ _ hp hf]
    rw [this]
    show decide (((laT (fun _ => true) u.dn u.ops o.k : Nat) : Int) = o.n) = (u.dn && decide (o.n = ((wrN u.ops o.k : Nat) : Int)))
    unfold laT
    cases hd : u.dn with
    | false =>
      simp only [Bool.false_and, Bool.false_eq_true, if_false]
      exact decide_eq_false (by omega)
    | true =>
      simp only [Bool.true_and, if_true]
      rw [Bool.eq_iff_iff, decide_eq_true_iff, decide_eq_true_iff]
      exact ⟨fun e => e.symm, fun e => e.symm⟩
theorem sm_id {xs : List Txn} (hp : xs.Pairwise (fun a b => a.id < b.id)) (K : Txn → Nat) {t : Txn} (ht : t ∈ xs) : sm (fun x => if x.id = t.id then K x else 0) xs = K t := by
  induction xs with
  | nil => cases ht
  | cons x l ih =>
    obtain ⟨h1, h2⟩ := List.pairwise_cons.1 hp
    rw [sm]
    rcases List.mem_cons.1 ht with e | ht
    · subst e
      rw [if_pos rfl, sm_congr (g := fun _ => 0), sm_zero, Nat.add_zero]
      intro y hy
      have := h1 y hy
      rw [if_neg (by omega)]
    · have := h1 t ht
      rw [if_neg (by omega), ih h2 ht, Nat.zero_add]
/-- The reads of others' installed versions. -/
def rdsB (h : Hist) (t : Txn) (o : Opr) : Bool := t.dn && o.rd && decide (o.t ≠ 0) && decide (o.t ≠ t.id) && lastB h o
def isWR (id : Int) (x : Hvy) : Bool := decide (x.kd = 2) && decide (x.t = id)
theorem reads_sum {h : Hist} (hr : rightH h = true) {l : List Hvy} (hl : Lists (cntE h (fun _ => true)) l) {t : Txn} (ht : t ∈ h.txs) : tot (isWR t.id) l = (t.ops.filter (rdsB h t)).length := by
  obtain ⟨_, _, hp, _⟩ := right_iff.1 hr
  obtain ⟨ks, hn, hm, he⟩ := hl.tot_eq (isWR t.id)
  rw [he]
  generalize hnx : nxH (fun _ => true) h.ords = nx
  have hcnt : ∀ e, cntE h (fun _ => true) e = wwF nx (fun _ => false) e + sm (fun t => sm (fun o => rdE nx (laF h (fun _ => true)) (fun _ => true) t.id t.dn o e) t.ops) h.txs := fun e => by rw [cntE_right hr, hnx]
  have hq : ∀ c x, isWR t.id (hvy c x) = true ↔ (ofE x).kd = 2 ∧ (ofE x).t = t.id := fun c x => by
    unfold isWR hvy ofE
    simp
  have h1 : ∀ x, (if isWR t.id (hvy (cntE h (fun _ => true)) x) = true then cntE h (fun _ => true) (ofE x) else 0) = sm (fun t' => sm (fun o => if (ofE x).kd = 2 ∧ (ofE x).t = t.id then rdE nx (laF h (fun _ => true)) (fun _ => true) t'.id t'.dn o (ofE x) else 0) t'.ops) h.txs := fun x => by
    by_cases hx : (ofE x).kd = 2 ∧ (ofE x).t = t.id
    · rw [if_pos ((hq _ _).2 hx), hcnt]
      have hw : wwF nx (fun _ => false) (ofE x) = 0 := by
        unfold wwF
        rw [if_neg (fun hh => by have := hh.1; have := hx.1; omega)]
      rw [hw, Nat.zero_add]
      refine sm_congr fun t' _ => sm_congr fun o _ => ?_
      rw [if_pos hx]
    · rw [if_neg (fun hh => hx ((hq _ _).1 hh)), sm_congr (g := fun _ => 0), sm_zero]
      intro t' _
      rw [sm_congr (g := fun _ => 0), sm_zero]
      intro o _
      rw [if_neg hx]
  rw [sm_congr fun x _ => h1 x, sm_comm]
  have h2 : ∀ t' ∈ h.txs, sm (fun x => sm (fun o => if (ofE x).kd = 2 ∧ (ofE x).t = t.id then rdE nx (laF h (fun _ => true)) (fun _ => true) t'.id t'.dn o (ofE x) else 0) t'.ops) ks = if t'.id = t.id then (t'.ops.filter (rdsB h t')).length else 0 := fun t' ht' => by
    rw [sm_comm]
    have h3 : ∀ o ∈ t'.ops, sm (fun x => if (ofE x).kd = 2 ∧ (ofE x).t = t.id then rdE nx (laF h (fun _ => true)) (fun _ => true) t'.id t'.dn o (ofE x) else 0) ks = if t'.id = t.id ∧ rdsB h t' o = true then 1 else 0 := fun o ho => by
      by_cases hrc : rdC (laF h (fun _ => true)) (fun _ => true) t'.id t'.dn o = true
      · obtain ⟨hd, hrd, hne, _, hla⟩ := rdC_iff.1 hrc
        by_cases h0 : o.t = 0
        · rw [sm_congr (g := fun _ => 0), sm_zero, if_neg]
          · rintro ⟨_, hb⟩
            unfold rdsB at hb
            simp [h0] at hb
          · intro x _
            split
            · rename_i hx
              unfold rdE rdW rdR
              rw [if_pos hrc, if_neg (fun hh => hh.1 h0)]
              split
              · rw [if_neg (fun hh => by have := congrArg Edg.kd hh.2; have h3 : (ofE x).kd = 3 := this; have := hx.1; omega)]
              · rfl
            · rfl
        · have hlb : lastB h o = true := by rw [← la_last hr ht' ho hrd h0 hne]; exact decide_eq_true hla
          have hb : rdsB h t' o = true := by unfold rdsB; simp [hd, hrd, h0, hne, hlb]
          by_cases hi : t'.id = t.id
          · rw [if_pos ⟨hi, hb⟩]
            have hin : toE (wrE t'.id o) ∈ ks := by
              rw [hm, ofE_toE, hcnt]
              have h4 := sm_pos (f := fun t => sm (fun o' => rdE nx (laF h (fun _ => true)) (fun _ => true) t.id t.dn o' (wrE t'.id o)) t.ops) ht'
              have h5 := sm_pos (f := fun o' => rdE nx (laF h (fun _ => true)) (fun _ => true) t'.id t'.dn o' (wrE t'.id o)) ho
              have h6 : 1 ≤ rdE nx (laF h (fun _ => true)) (fun _ => true) t'.id t'.dn o (wrE t'.id o) := by
                unfold rdE rdW
                rw [if_pos hrc, if_pos ⟨h0, rfl⟩]
                omega
              simp only at h4 h5
              omega
            rw [← sm_one _ ks hn hin]
            refine sm_congr fun x _ => ?_
            by_cases hx : x = toE (wrE t'.id o)
            · subst hx
              rw [if_pos rfl, ofE_toE, if_pos ⟨rfl, hi⟩]
              unfold rdE rdW rdR
              rw [if_pos hrc, if_pos ⟨h0, rfl⟩]
              split
              · rw [if_neg (fun hh => by have := congrArg Edg.kd hh.2; have h3 : (2 : Int) = 3 := this; omega)]
              · rfl
            · rw [if_neg hx]
              split
              · rename_i hxx
                unfold rdE rdW rdR
                rw [if_pos hrc, if_neg (fun hh => hx (by rw [← toE_ofE x, hh.2]))]
                split
                · rw [if_neg (fun hh => by have := congrArg Edg.kd hh.2; have h3 : (ofE x).kd = 3 := this; have := hxx.1; omega)]
                · rfl
              · rfl
          · rw [if_neg (fun hh => hi hh.1), sm_congr (g := fun _ => 0), sm_zero]
            intro x _
            split
            · rename_i hxx
              unfold rdE rdW rdR
              rw [if_pos hrc, if_neg (fun hh => hi (by have := congrArg Edg.t hh.2; have h3 : (ofE x).t = t'.id := this; rw [← h3]; exact hxx.2))]
              split
              · rw [if_neg (fun hh => by have := congrArg Edg.kd hh.2; have h3 : (ofE x).kd = 3 := this; have := hxx.1; omega)]
              · rfl
            · rfl
      · rw [sm_congr (g := fun _ => 0), sm_zero, if_neg]
        · rintro ⟨_, hb⟩
          unfold rdsB at hb
          simp only [Bool.and_eq_true, decide_eq_true_eq] at hb
          obtain ⟨⟨⟨⟨hd, hrd⟩, h0⟩, hne⟩, hlb⟩ := hb
          rw [← la_last hr ht' ho hrd h0 hne, decide_eq_true_iff] at hlb
          exact hrc (rdC_iff.2 ⟨hd, hrd, hne, rfl, hlb⟩)
        · intro x _
          split
          · unfold rdE
            rw [if_neg hrc]
          · rfl
    rw [sm_congr h3]
    by_cases hi : t'.id = t.id
    · rw [if_pos hi, sm_filter]
      exact sm_congr fun o _ => by simp [hi]
    · rw [if_neg hi, sm_congr (g := fun _ => 0), sm_zero]
      intro o _
      rw [if_neg (fun hh => hi hh.1)]
  rw [sm_congr h2, sm_id hp (fun t' => (t'.ops.filter (rdsB h t')).length) ht]
/-- Pairs of neighbours. -/
def prs : Int → List Int → List (Int × Int)
  | _, [] => []
  | x, y :: l => (x, y) :: prs y l
theorem prs_len : ∀ (l : List Int) (x : Int), (prs x l).length = l.length
  | [], _ => rfl
  | y :: l, x => by rw [prs, List.length_cons, prs_len l y, List.length_cons]
theorem prs_fst : ∀ (l : List Int) (x : Int) (p : Int × Int), p ∈ prs x l → p.1 ∈ x :: l
  | y :: l, x, p, h => by
    rw [prs] at h
    rcases List.mem_cons.1 h with rfl | h
    · exact List.mem_cons_self
    · exact List.mem_cons_of_mem _ (prs_fst l y p h)
theorem prs_chain : ∀ (l : List Int) (x a b : Int), (x :: l).Nodup → (if chain x l a = some b then 1 else 0) = sm (fun p => if a = p.1 ∧ b = p.2 then 1 else 0) (prs x l)
  | [], x, a, b, _ => by rw [chain, if_neg (by simp)]; rfl
  | y :: l, x, a, b, hn => by
    obtain ⟨h0, h1⟩ := List.nodup_cons.1 hn
    rw [prs, sm, chain]
    by_cases hx : a = x
    · rw [if_pos hx, sm_congr (g := fun _ => 0), sm_zero]
      · by_cases hb : b = y
        · simp [hx, hb]
        · have hb2 : ¬ y = b := fun e => hb e.symm
          simp [hb, hb2]
      · intro p hp
        rw [if_neg]
        rintro ⟨e, _⟩
        exact h0 (by rw [← hx, e]; exact prs_fst l y p hp)
    · rw [if_neg hx, if_neg (show ¬ (a = (x, y).1 ∧ b = (x, y).2) from fun hh => hx hh.1), Nat.zero_add]
      exact prs_chain l y a b h1
theorem ordL_of : ∀ {os : List Ordr} {o : Ordr}, os.Pairwise (fun x y => x.key ≠ y.key) → o ∈ os → ordL os o.key = o.txs
  | y :: l, o, hk, ho => by
    obtain ⟨h1, h2⟩ := List.pairwise_cons.1 hk
    rw [ordL]
    rcases List.mem_cons.1 ho with e | ho
    · rw [if_pos (by rw [e]), e]
    · rw [if_neg (h1 o ho)]
      exact ordL_of h2 ho
def isWW (key : Int) (x : Hvy) : Bool := decide (x.kd = 1) && decide (x.k = key)
/-- One edge less than an order is long. -/
theorem ww_sum {h : Hist} (hr : rightH h = true) {l : List Hvy} (hl : Lists (cntE h (fun _ => true)) l) {o : Ordr} (ho : o ∈ h.ords) : 1 + tot (isWW o.key) l = o.txs.length := by
  obtain ⟨ks, hn, hm, he⟩ := hl.tot_eq (isWW o.key)
  rw [he]
  obtain ⟨hnd, hdn⟩ := right_order hr ho
  obtain ⟨h00, hnd1⟩ := List.nodup_cons.1 hnd
  -- the order is not empty
  have hne : o.txs ≠ [] := by
    obtain ⟨_, _, h3, _, h5, h6⟩ := right_iff.1 hr
    have hk : o.key ∈ KW h.txs := by rw [← h5]; exact List.mem_map.2 ⟨o, ho, rfl⟩
    have hpm : o.txs.Perm (wrsL h.txs o.key) := of_decide_eq_true (h6 o ho)
    unfold KW at hk
    rw [mem_keysL] at hk
    unfold allK at hk
    obtain ⟨t, ht, hk⟩ := List.mem_flatMap.1 hk
    split at hk
    · rename_i hd
      obtain ⟨q, hq, hqk⟩ := List.mem_map.1 hk
      have hw : 0 < wrN t.ops o.key := by
        unfold bareL at hq
        obtain ⟨hq1, hq2⟩ := List.mem_filter.1 hq
        unfold wrN
        exact List.countP_pos_iff.2 ⟨q, hq1, by simpa [hqk] using hq2⟩
      have : t.id ∈ wrsL h.txs o.key := by
        unfold wrsL
        exact List.mem_map.2 ⟨t, List.mem_filter.2 ⟨ht, by simp [hd, hw]⟩, rfl⟩
      intro e
      rw [e] at hpm
      have := hpm.mem_iff.2 this
      cases this
    · cases hk
  obtain ⟨x0, xs, hxs⟩ : ∃ x0 xs, o.txs = x0 :: xs := by
    cases hc : o.txs with
    | nil => exact absurd hc hne
    | cons a b => exact ⟨a, b, rfl⟩
  have hox : ∀ a, chain 0 (ordL h.ords o.key) a = chain 0 (x0 :: xs) a := fun a => by
    have : ordL h.ords o.key = x0 :: xs := by
      rw [← hxs]
      exact ordL_of (right_keys hr) ho
    rw [this]
  have hww : ∀ x : Pk.E, (if isWW o.key (hvy (cntE h (fun _ => true)) x) = true then cntE h (fun _ => true) (ofE x) else 0) = sm (fun p => if x = toE ⟨p.1, p.2, 1, o.key⟩ then 1 else 0) (prs x0 xs) := fun x => by
    by_cases hx : (ofE x).kd = 1 ∧ (ofE x).k = o.key
    · have hb : isWW o.key (hvy (cntE h (fun _ => true)) x) = true := by
        unfold isWW hvy
        have h1 : x.2.2.1 = 1 := hx.1
        have h2 : x.2.2.2 = o.key := hx.2
        simp [h1, h2]
      rw [if_pos hb, cntE_right hr]
      have hz : sm (fun t => sm (fun o => rdE (nxH (fun _ => true) h.ords) (laF h (fun _ => true)) (fun _ => true) t.id t.dn o (ofE x)) t.ops) h.txs = 0 := by
        rw [sm_congr (g := fun _ => 0), sm_zero]
        intro t _
        rw [sm_congr (g := fun _ => 0), sm_zero]
        intro o' _
        unfold rdE rdW rdR
        split
        · rw [if_neg (fun hh => by have := congrArg Edg.kd hh.2; have h3 : (ofE x).kd = 2 := this; have := hx.1; omega)]
          split
          · rw [if_neg (fun hh => by have := congrArg Edg.kd hh.2; have h3 : (ofE x).kd = 3 := this; have := hx.1; omega)]
          · rfl
        · rfl
      rw [hz, Nat.add_zero]
      unfold wwF
      rw [hx.2, nx_ch hr rfl, hox, chain]
      have hpc := prs_chain xs x0 (ofE x).f (ofE x).t (by rw [← hxs]; exact hnd1)
      have hre : ∀ p : Int × Int, (x = toE ⟨p.1, p.2, 1, o.key⟩) ↔ ((ofE x).f = p.1 ∧ (ofE x).t = p.2) := fun p => by
        obtain ⟨a, b, c, d⟩ := x
        unfold ofE at hx ⊢
        unfold toE
        simp only at hx ⊢
        constructor
        · intro e
          injection e with e1 e
          injection e with e2 _
          exact ⟨e1, e2⟩
        · rintro ⟨rfl, rfl⟩
          rw [hx.1, hx.2]
      rw [sm_congr (g := fun p : Int × Int => if (ofE x).f = p.1 ∧ (ofE x).t = p.2 then 1 else 0) (fun p _ => by simp only [hre p])]
      rw [← hpc]
      by_cases hf : (ofE x).f = 0
      · rw [if_neg (fun hh => hh.2.1 hf), if_neg]
        intro hh
        obtain ⟨h3, _⟩ := chain_mem _ _ _ _ hh
        refine h00 ?_
        rw [hxs, ← hf]
        rcases h3 with e | h3
        · rw [e]; exact List.mem_cons_self
        · exact List.mem_cons_of_mem _ h3
      · rw [if_neg hf]
        by_cases hch : chain x0 xs (ofE x).f = some (ofE x).t
        · rw [if_pos ⟨hx.1, hf, hch, rfl⟩, if_pos hch]
        · rw [if_neg (fun hh => hch hh.2.2.1), if_neg hch]
    · have hb : ¬ isWW o.key (hvy (cntE h (fun _ => true)) x) = true := by
        intro hb
        unfold isWW hvy at hb
        simp only [Bool.and_eq_true, decide_eq_true_eq] at hb
        exact hx hb
      rw [if_neg hb, sm_congr (g := fun _ => 0), sm_zero]
      intro p _
      rw [if_neg]
      rintro rfl
      exact hx ⟨rfl, rfl⟩
  rw [sm_congr fun x _ => hww x, sm_comm, sm_congr (g := fun _ => 1), sm_length, prs_len, hxs, List.length_cons]
  · omega
  · intro p hp
    refine sm_one _ ks hn ((hm _).2 fun h0 => ?_)
    have h1 := hww (toE ⟨p.1, p.2, 1, o.key⟩)
    rw [h0] at h1
    have h2 := sm_pos (f := fun q : Int × Int => if toE ⟨p.1, p.2, 1, o.key⟩ = toE ⟨q.1, q.2, 1, o.key⟩ then 1 else 0) hp
    simp only [if_pos] at h2
    rw [← h1] at h2
    split at h2 <;> omega
theorem findT_mem : ∀ {xs : List Txn} {id : Int} {t : Txn}, findT xs id = some t → t ∈ xs
  | x :: l, id, t, h => by
    unfold findT at h
    split at h
    · injection h with h
      rw [h]; exact List.mem_cons_self
    · exact List.mem_cons_of_mem _ (findT_mem h)
/-- Each edge's key is one that an operation has. -/
theorem cnt_keyop {h : Hist} {P : Int → Bool} {e : Edg} (hc : cntE h P e ≠ 0) : ∃ t, t ∈ h.txs ∧ ∃ o, o ∈ t.ops ∧ o.k = e.k := by
  obtain ⟨hr, h1⟩ := cnt_some hc
  rcases h1 with ⟨_, h0, hn⟩ | ⟨t, ht, o, ho, _, hok, _⟩
  · obtain ⟨_, ⟨b, hb, _, hw⟩, _⟩ := nx_end hr hn
    unfold wrN at hw
    obtain ⟨q, h2, h3⟩ := List.countP_pos_iff.1 hw
    refine ⟨b, ?_, q, h2, ?_⟩
    · exact findT_mem hb
    · simp at h3
      exact h3.2
  · exact ⟨t, ht, o, ho, hok⟩
/-- Key by key the edges are all. -/
theorem parts_sum {l : List Hvy} {met : List Int} (hn : met.Nodup) (h : ∀ x ∈ l, x.k ∈ met) : sm (fun k => (l.filter fun x => x.k == k).length) met = l.length := by
  rw [sm_congr (g := fun k => sm (fun x : Hvy => if x.k = k then 1 else 0) l), sm_comm, sm_congr (g := fun _ => 1), sm_length]
  · intro x hx
    show sm (fun k => if x.k = k then 1 else 0) met = 1
    rw [sm_congr (g := fun k => if k = x.k then 1 else 0), sm_one x.k met hn (h x hx)]
    intro k _
    by_cases hk : x.k = k
    · rw [if_pos hk, if_pos hk.symm]
    · rw [if_neg hk, if_neg (fun e => hk e.symm)]
  · intro k _
    rw [sm_filter]
    refine sm_congr fun x _ => ?_
    by_cases hk : x.k = k <;> simp [hk]
end Go.Proofs.Ytmgkpabagpgilaa.Dg
