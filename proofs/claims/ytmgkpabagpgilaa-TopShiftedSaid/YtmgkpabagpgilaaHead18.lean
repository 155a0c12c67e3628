/-
  Contracts of small functions, several texts laid into one. Not a statement of the seat.
-/
import Derived.Test.YtmgkpabagpgilaaHead17
import Derived.Test.YtmgkpabagpgilaaHead2
import Derived.Test.YtmgkpabagpgilaaHead9
import Derived.Test.YtmgkpabagpgilaaHead4
import Derived.Test.YtmgkpabagpgilaaHead5
import Derived.Test.YtmgkpabagpgilaaLstAp
import Derived.Test.YtmgkpabagpgilaaHead16
import Derived.Test.YtmgkpabagpgilaaHead1
namespace Go.Proofs.Ytmgkpabagpgilaa.Dg
open F Tx Hi Off
def sI (a x : Int) : Int := if x = 0 then 0 else x + a
def shO (a b : Int) (o : Opr) : Opr := ⟨o.rd, o.k + b, if o.rd = true ∧ o.t ≠ 0 then o.t + a else o.t, o.n⟩
def shT (a b : Int) (t : Txn) : Txn := ⟨t.id + a, t.dn, t.ops.map (shO a b)⟩
def shR (a b : Int) (o : Ordr) : Ordr := ⟨o.key + b, o.txs.map (· + a)⟩
def shH (a b : Int) (h : Hist) : Hist := ⟨h.txs.map (shT a b), h.ords.map (shR a b)⟩
def shV (a b : Int) (v : Ver) : Ver := ⟨v.t + a, v.k + b, v.n⟩
def lowH (m : Int) (h : Hist) : Prop := ∀ t ∈ h.txs, (1 ≤ t.id ∧ t.id ≤ m) ∧ ∀ o ∈ t.ops, 1 ≤ o.k ∧ o.k ≤ m
theorem findT_id0 : ∀ {xs : List Txn} {id : Int} {t : Txn}, findT xs id = some t → t.id = id
  | x :: l, id, t, h => by
    unfold findT at h
    split at h
    · injection h with h
      rw [← h]
      assumption
    · exact findT_id0 h
/-- What is known of operations that are shifted. -/
def okO (o : Opr) : Prop := Op.rightO o = true ∧ o.k ≤ 1000000 ∧ (o.rd = true → o.t ≤ 1000000)
section
variable {a b : Int}
theorem sI_zero : sI a 0 = 0 := rfl
theorem sI_pos {x : Int} (h : x ≠ 0) : sI a x = x + a := if_neg h
theorem sI_inj {x y : Int} (ha : 0 ≤ a) (hx : 0 ≤ x) (hy : 0 ≤ y) : sI a x = sI a y ↔ x = y := by
  unfold sI
  split <;> split <;> omega
theorem read_bd {o : Opr} (h : Op.rightO o = true) (hr : o.rd = true) : 0 ≤ o.t ∧ (1 ≤ o.k ∧ o.k ≤ 1048575) ∧ (o.t = 0 ∧ o.n = 0 ∨ 1 ≤ o.t ∧ o.t ≤ 1048575 ∧ 1 ≤ o.n ∧ o.n ≤ 4095) := by
  unfold Op.rightO at h
  rw [if_pos hr] at h
  obtain ⟨h1, h2, h3⟩ := Pk.vR_iff.1 h
  exact ⟨by omega, ⟨h2, h3⟩, h1⟩
theorem shO_t {o : Opr} (hr : o.rd = true) : (shO a b o).t = sI a o.t := by
  unfold shO sI
  by_cases h : o.t = 0 <;> simp [hr, h]
theorem shO_right {o : Opr} (ha : 0 ≤ a ∧ a ≤ 40000) (hb : 0 ≤ b ∧ b ≤ 40000) (h : okO o) : Op.rightO (shO a b o) = true := by
  obtain ⟨h1, h2, h3⟩ := h
  cases hr : o.rd with
  | true =>
    obtain ⟨h4, h5, h6⟩ := read_bd h1 hr
    have h7 := h3 hr
    unfold Op.rightO
    rw [if_pos (show (shO a b o).rd = true from hr), shO_t hr]
    refine Pk.vR_iff.2 ?_
    show ((sI a o.t = 0 ∧ o.n = 0 ∨ 1 ≤ sI a o.t ∧ sI a o.t ≤ 1048575 ∧ 1 ≤ o.n ∧ o.n ≤ 4095) ∧ 1 ≤ o.k + b ∧ o.k + b ≤ 1048575)
    unfold sI
    split <;> omega
  | false =>
    obtain ⟨h4, h5, h6, h7⟩ := Op.right_w h1 hr
    unfold Op.rightO
    rw [if_neg (show ¬ (shO a b o).rd = true by show ¬ o.rd = true; rw [hr]; simp)]
    refine decide_eq_true ?_
    show 1 ≤ o.k + b ∧ o.k + b ≤ 1048575 ∧ (if o.rd = true ∧ o.t ≠ 0 then o.t + a else o.t) = 0 ∧ o.n = 0
    rw [if_neg (by rw [hr]; simp)]
    omega
theorem sh_wrN (l : List Opr) (k : Int) : wrN (l.map (shO a b)) (k + b) = wrN l k := by
  unfold wrN
  rw [List.countP_map]
  congr 1
  funext o
  show (!o.rd && decide (o.k + b = k + b)) = (!o.rd && decide (o.k = k))
  congr 1
  rw [decide_eq_decide]
  omega
theorem sh_bare (l : List Opr) : (bareL (l.map (shO a b))).map Opr.k = ((bareL l).map Opr.k).map (· + b) := by
  unfold bareL
  rw [List.filter_map, List.map_map, List.map_map]
  rfl
theorem sh_rtGo {id : Int} (ha : 0 ≤ a ∧ a ≤ 40000) (hb : 0 ≤ b ∧ b ≤ 40000) (hid : 1 ≤ id) : ∀ (l pre : List Opr), (∀ o ∈ l, okO o) → rtGo id pre l = 0 → rtGo (id + a) (pre.map (shO a b)) (l.map (shO a b)) = 0
  | [], _, _, _ => rfl
  | o :: l, pre, h, h0 => by
    rw [rtGo] at h0
    rw [List.map_cons, rtGo]
    have ho := h o List.mem_cons_self
    rw [if_neg (by rw [ho.1]; simp)] at h0
    split at h0
    · exact absurd h0 (by decide)
    · rename_i hn
      rw [if_neg (by rw [shO_right ha hb ho]; simp), if_neg]
      · have := sh_rtGo ha hb hid l (pre ++ [o]) (fun x hx => h x (List.mem_cons_of_mem _ hx)) h0
        rw [List.map_append] at this
        exact this
      · rintro ⟨hr, ht, hw⟩
        refine hn ⟨hr, ?_, ?_⟩
        · have hr' : o.rd = true := hr
          rw [shO_t hr'] at ht
          have := (read_bd ho.1 hr').1
          unfold sI at ht
          split at ht <;> omega
        · have hw : (wrN (pre.map (shO a b)) (o.k + b) : Int) < o.n := hw
          rw [sh_wrN] at hw
          exact hw
theorem inV_sh {acc : List Ver} {v : Ver} : inV (acc.map (shV a b)) (shV a b v) = inV acc v := by
  rw [Bool.eq_iff_iff, inV_iff, inV_iff, List.mem_map]
  constructor
  · rintro ⟨x, hx, e⟩
    have : x = v := by
      obtain ⟨x1, x2, x3⟩ := x
      obtain ⟨v1, v2, v3⟩ := v
      unfold shV at e
      injection e with e1 e2 e3
      dsimp only at e1 e2 e3
      congr 1 <;> omega
    rw [← this]; exact hx
  · intro h
    exact ⟨v, h, rfl⟩
theorem sh_needs {id : Int} (ha : 0 ≤ a ∧ a ≤ 40000) (l : List Opr) (h : ∀ o ∈ l, okO o) : needsL (id + a) (l.map (shO a b)) = (needsL id l).map (shV a b) := by
  have : ∀ (l : List Opr) (acc : List Ver), (∀ o ∈ l, okO o) → (l.map (shO a b)).foldl (needStep (id + a)) (acc.map (shV a b)) = (l.foldl (needStep id) acc).map (shV a b) := by
    intro l
    induction l with
    | nil => intro acc _; rfl
    | cons o l ih =>
      intro acc h
      rw [List.map_cons, List.foldl_cons, List.foldl_cons, ← ih _ fun x hx => h x (List.mem_cons_of_mem _ hx)]
      congr 1
      have ho := h o List.mem_cons_self
      cases hr : o.rd with
      | false =>
        have n1 : need (id + a) (acc.map (shV a b)) (shO a b o) = false := by
          unfold need
          rw [show (shO a b o).rd = false from hr]
          simp
        have n2 : need id acc o = false := by unfold need; rw [hr]; simp
        unfold needStep
        rw [n1, n2]
        rfl
      | true =>
        have hb := read_bd ho.1 hr
        by_cases h0 : o.t = 0
        · have n1 : need (id + a) (acc.map (shV a b)) (shO a b o) = false := by
            unfold need
            rw [shO_t hr, h0]
            simp [sI]
          have n2 : need id acc o = false := by unfold need; rw [h0]; simp
          unfold needStep
          rw [n1, n2]
          rfl
        · have ev : verO (shO a b o) = shV a b (verO o) := by
            unfold verO
            rw [if_pos (show (shO a b o).rd = true from hr), if_pos hr, shO_t hr, sI_pos h0]
            rfl
          have e1 : need (id + a) (acc.map (shV a b)) (shO a b o) = need id acc o := by
            unfold need
            rw [ev, inV_sh, shO_t hr, sI_pos h0]
            congr 1
            rw [show (shO a b o).rd = o.rd from rfl]
            congr 1
            · congr 1
              rw [decide_eq_decide]
              constructor <;> intro _ <;> omega
            · rw [decide_eq_decide]
              constructor <;> intro _ <;> omega
          unfold needStep
          rw [e1, ev]
          split
          · rw [List.map_append]; rfl
          · rfl
  exact this l [] h
theorem sh_find (xs : List Txn) (id : Int) : findT (xs.map (shT a b)) (id + a) = (findT xs id).map (shT a b) := by
  induction xs with
  | nil => rfl
  | cons x l ih =>
    rw [List.map_cons, findT, findT, ih]
    by_cases h : x.id = id
    · rw [if_pos h, if_pos (show (shT a b x).id = id + a by show x.id + a = id + a; omega)]; rfl
    · rw [if_neg h, if_neg (show ¬ (shT a b x).id = id + a by show ¬ x.id + a = id + a; omega)]
theorem sh_allK (xs : List Txn) : allK (xs.map (shT a b)) = (allK xs).map (· + b) := by
  unfold allK
  rw [List.flatMap_map, List.map_flatMap]
  congr 1
  funext t
  show (if t.dn then (bareL (t.ops.map (shO a b))).map Opr.k else []) = _
  rw [sh_bare]
  cases t.dn <;> rfl
theorem sh_keys (l : List Int) : keysL (l.map (· + b)) = (keysL l).map (· + b) := by
  refine Tx.rises_ext (keysL_rises _) ?_ fun x => ?_
  · have := keysL_rises l
    unfold Tx.Rises at *
    rw [List.pairwise_map]
    exact this.imp fun {x y} h => by omega
  · rw [mem_keysL, List.mem_map, List.mem_map]
    constructor
    · rintro ⟨y, hy, e⟩; exact ⟨y, mem_keysL.2 hy, e⟩
    · rintro ⟨y, hy, e⟩; exact ⟨y, mem_keysL.1 hy, e⟩
theorem sh_wrs (xs : List Txn) (k : Int) : wrsL (xs.map (shT a b)) (k + b) = (wrsL xs k).map (· + a) := by
  unfold wrsL
  rw [List.filter_map, List.map_map, List.map_map]
  have : ((fun t : Txn => t.dn && decide (0 < wrN t.ops (k + b))) ∘ shT a b) = fun t : Txn => t.dn && decide (0 < wrN t.ops k) := by
    funext t
    show (t.dn && decide (0 < wrN (t.ops.map (shO a b)) (k + b))) = _
    rw [sh_wrN]
  rw [this]
  rfl
theorem low_ok {h : Hist} (hr : rightH h = true) (hl : lowH 1000000 h) {t : Txn} (ht : t ∈ h.txs) : ∀ o ∈ t.ops, okO o := by
  obtain ⟨_, h2, hp, h4, _⟩ := right_iff.1 hr
  intro o ho
  have hro := (right_ops (h2 t ht)).2.2 o ho
  refine ⟨hro, ((hl t ht).2 o ho).2, fun hrd => ?_⟩
  have hb := read_bd hro hrd
  by_cases h0 : o.t = 0
  · omega
  · by_cases h1 : o.t = t.id
    · have := (hl t ht).1; omega
    · have hn := h4 t ht
      unfold needsB at hn
      have := List.all_eq_true.1 hn _ (needs_has t.ops [] ho hrd h0 h1)
      dsimp only at this
      cases hf : findT h.txs o.t with
      | none =>
        rw [hasB_none (fun e => h0 e.1) hf] at this
        cases this
      | some u =>
        have h5 := (hl u (Hi.findT_mem hf)).1
        have h6 := (findT_id0 hf)
        omega
theorem wrsL_mem {xs : List Txn} {k x : Int} (h : x ∈ wrsL xs k) : ∃ t ∈ xs, t.id = x := by
  unfold wrsL at h
  obtain ⟨t, ht, e⟩ := List.mem_map.1 h
  exact ⟨t, (List.mem_filter.1 ht).1, e⟩
theorem sh_rightH {h : Hist} (ha : 0 ≤ a ∧ a ≤ 40000) (hb : 0 ≤ b ∧ b ≤ 40000) (hr : rightH h = true) (hl : lowH 1000000 h) : rightH (shH a b h) = true := by
  have hok := fun t ht => low_ok hr hl (t := t) ht
  obtain ⟨h1, h2, h3, h4, h5, h6⟩ := right_iff.1 hr
  refine right_iff.2 ⟨by show (h.txs.map _).length ≤ _; rw [List.length_map]; exact h1, fun t ht => ?_, ?_, fun t ht => ?_, ?_, fun o ho => ?_⟩
  · obtain ⟨x, hx, rfl⟩ := List.mem_map.1 ht
    have hq := h2 x hx
    obtain ⟨q1, q2, q3⟩ := right_ops hq
    have hlo := (hl x hx).1
    show rightT (x.id + a) (x.ops.map (shO a b)) = 0
    unfold rightT at hq ⊢
    rw [if_neg (by omega), if_neg (by omega)] at hq
    rw [if_neg (by omega), if_neg (by rw [List.length_map]; omega)]
    exact sh_rtGo ha hb (by omega) x.ops [] (hok x hx) hq
  · show (h.txs.map (shT a b)).Pairwise _
    rw [List.pairwise_map]
    exact h3.imp fun {x y} e => by show x.id + a < y.id + a; omega
  · obtain ⟨x, hx, rfl⟩ := List.mem_map.1 ht
    have hn := h4 x hx
    unfold needsB at hn ⊢
    show ((needsL (x.id + a) (x.ops.map (shO a b))).all fun v => hasB (shH a b h) v.t v.k v.n) = true
    rw [sh_needs ha x.ops (hok x hx), List.all_map]
    refine List.all_eq_true.2 fun v hv => ?_
    have h7 := List.all_eq_true.1 hn v hv
    obtain ⟨b1, b2⟩ := needs_bd (h2 x hx) hv
    show hasB (shH a b h) (v.t + a) (v.k + b) v.n = true
    cases hf : findT h.txs v.t with
    | none =>
      rw [hasB_none (fun e => b1 e.1) hf] at h7
      cases h7
    | some u =>
      rw [hasB_some (fun e => b1 e.1) hf] at h7
      have hu := (hl u (Hi.findT_mem hf)).1
      have he := findT_id0 hf
      have hf2 : findT (shH a b h).txs (v.t + a) = some (shT a b u) := by show findT (h.txs.map (shT a b)) _ = _; rw [sh_find, hf]; rfl
      rw [hasB_some (fun e => by omega) hf2]
      show decide (1 ≤ v.n ∧ v.n ≤ ((wrN (u.ops.map (shO a b)) (v.k + b) : Nat) : Int)) = true
      rw [sh_wrN]
      exact h7
  · show (h.ords.map (shR a b)).map Ordr.key = KW (h.txs.map (shT a b))
    unfold KW at h5 ⊢
    rw [sh_allK, sh_keys, ← h5, List.map_map, List.map_map]
    rfl
  · obtain ⟨x, hx, rfl⟩ := List.mem_map.1 ho
    have hp := of_decide_eq_true (h6 x hx)
    refine decide_eq_true ?_
    show (x.txs.map (· + a)).Perm (wrsL (h.txs.map (shT a b)) (x.key + b))
    rw [sh_wrs]
    exact hp.map _
theorem sh_ordL (os : List Ordr) (k : Int) : ordL (os.map (shR a b)) (k + b) = (ordL os k).map (· + a) := by
  induction os with
  | nil => rfl
  | cons o l ih =>
    rw [List.map_cons, ordL, ordL, ih]
    by_cases h : o.key = k
    · rw [if_pos h, if_pos (show (shR a b o).key = k + b by show o.key + b = k + b; omega)]; rfl
    · rw [if_neg h, if_neg (show ¬ (shR a b o).key = k + b by show ¬ o.key + b = k + b; omega)]
theorem sh_chain (ha : 0 ≤ a) : ∀ (l : List Int) (a0 x : Int), (∀ y ∈ l, 1 ≤ y) → 0 ≤ a0 → 0 ≤ x → chain (sI a a0) (l.map (· + a)) (sI a x) = (chain a0 l x).map (· + a)
  | [], _, _, _, _, _ => rfl
  | y :: l, a0, x, h, h0, hx => by
    have hy := h y List.mem_cons_self
    rw [List.map_cons, chain, chain]
    have e1 : sI a y = y + a := sI_pos (by omega)
    rw [← e1, sh_chain ha l y x (fun z hz => h z (List.mem_cons_of_mem _ hz)) (by omega) hx]
    by_cases e : x = a0
    · rw [if_pos e, if_pos (by rw [e])]
      rw [e1]
      rfl
    · rw [if_neg e, if_neg (fun e2 => e ((sI_inj ha hx h0).1 e2))]
theorem ordL_ids {h : Hist} (hr : rightH h = true) (hl : lowH 1000000 h) (k : Int) : ∀ y ∈ ordL h.ords k, 1 ≤ y := by
  intro y hy
  obtain ⟨o, ho, hk, he⟩ := ordL_mem hy
  obtain ⟨_, h2⟩ := right_order hr ho
  rw [he] at hy
  obtain ⟨t, ht, _, _⟩ := h2 y hy
  have := (hl t (Hi.findT_mem ht)).1
  have := findT_id0 ht
  omega
/-- Who is next, shifted. -/
theorem sh_nx {h : Hist} (ha : 0 ≤ a ∧ a ≤ 40000) (hb : 0 ≤ b ∧ b ≤ 40000) (hr : rightH h = true) (hl : lowH 1000000 h) {x k : Int} (hx : 0 ≤ x) : nxH (fun _ => true) (shH a b h).ords (sI a x, k + b) = (nxH (fun _ => true) h.ords (x, k)).map (· + a) := by
  rw [nx_ch (sh_rightH ha hb hr hl) rfl, nx_ch hr rfl]
  show chain 0 (ordL (h.ords.map (shR a b)) (k + b)) _ = _
  rw [sh_ordL]
  exact sh_chain ha.1 _ 0 x (ordL_ids hr hl k) (Int.le_refl _) hx
theorem sh_la {h : Hist} (ha : 0 ≤ a ∧ a ≤ 40000) (hl : lowH 1000000 h) {x k : Int} : laF (shH a b h) (fun _ => true) (sI a x, k + b) = laF h (fun _ => true) (x, k) := by
  show ((laH _ (h.txs.map (shT a b)) (sI a x) (k + b) : Nat) : Int) = ((laH _ h.txs x k : Nat) : Int)
  congr 1
  have : ∀ xs : List Txn, (∀ t ∈ xs, 1 ≤ t.id) → laH (fun _ => true) (xs.map (shT a b)) (sI a x) (k + b) = laH (fun _ => true) xs x k := by
    intro xs
    induction xs with
    | nil => intro _; rfl
    | cons t l ih =>
      intro ht
      rw [List.map_cons, laH, laH, ih fun y hy => ht y (List.mem_cons_of_mem _ hy)]
      have h1 := ht t List.mem_cons_self
      congr 1
      have e1 : laT (fun _ => true) (shT a b t).dn (shT a b t).ops (k + b) = laT (fun _ => true) t.dn t.ops k := by
        unfold laT
        show (if (t.dn && true) = true then wrN (t.ops.map (shO a b)) (k + b) else 0) = _
        rw [sh_wrN]
      rw [e1]
      have e2 : (shT a b t).id = sI a x ↔ t.id = x := by
        show t.id + a = sI a x ↔ _
        unfold sI
        split <;> omega
      by_cases e : t.id = x
      · rw [if_pos e, if_pos (e2.2 e)]
      · rw [if_neg e, if_neg (fun h => e (e2.1 h))]
  exact this h.txs fun t ht => (hl t ht).1.1
def shE (a b : Int) (e : Edg) : Edg := ⟨e.f + a, e.t + a, e.kd, e.k + b⟩
theorem shE_inj {x y : Edg} : shE a b x = shE a b y ↔ x = y := by
  constructor
  · intro e
    obtain ⟨x1, x2, x3, x4⟩ := x
    obtain ⟨y1, y2, y3, y4⟩ := y
    unfold shE at e
    injection e with e1 e2 e3 e4
    dsimp only at e1 e2 e3 e4
    congr 1 <;> omega
  · intro e; rw [e]
theorem rdE_no {nx : Int × Int → Option Int} {la : Int × Int → Int} {P : Int → Bool} {id : Int} {d : Bool} {o : Opr} {e : Edg} (h : o.rd = false) : rdE nx la P id d o e = 0 := by
  unfold rdE rdC
  rw [h]
  simp
theorem sh_rd {h : Hist} (ha : 0 ≤ a ∧ a ≤ 40000) (hb : 0 ≤ b ∧ b ≤ 40000) (hr : rightH h = true) (hl : lowH 1000000 h) {id : Int} (hid : 1 ≤ id) {d : Bool} {o : Opr} (ho : okO o) (e : Edg) :
    rdE (nxH (fun _ => true) (shH a b h).ords) (laF (shH a b h) fun _ => true) (fun _ => true) (id + a) d (shO a b o) (shE a b e) = rdE (nxH (fun _ => true) h.ords) (laF h fun _ => true) (fun _ => true) id d o e := by
  cases hrd : o.rd with
  | false => rw [rdE_no (show (shO a b o).rd = false from hrd), rdE_no hrd]
  | true =>
    obtain ⟨h0, _, _⟩ := read_bd ho.1 hrd
    have et : (shO a b o).t = sI a o.t := shO_t hrd
    have e1 : rdC (laF (shH a b h) fun _ => true) (fun _ => true) (id + a) d (shO a b o) = rdC (laF h fun _ => true) (fun _ => true) id d o := by
      rw [Bool.eq_iff_iff, rdC_iff, rdC_iff]
      show d = true ∧ o.rd = true ∧ (shO a b o).t ≠ id + a ∧ _ ∧ laF (shH a b h) (fun _ => true) ((shO a b o).t, o.k + b) = o.n ↔ _
      rw [et, sh_la ha hl]
      have : sI a o.t ≠ id + a ↔ o.t ≠ id := by unfold sI; split <;> omega
      rw [this]
    have e2 : rdW (id + a) (shO a b o) (shE a b e) = rdW id o e := by
      unfold rdW
      by_cases hz : o.t = 0
      · rw [if_neg (fun hh => hh.1 (by rw [et, hz]; rfl)), if_neg (fun hh => hh.1 hz)]
      · have ew : wrE (id + a) (shO a b o) = shE a b (wrE id o) := by
          unfold wrE shE
          rw [et, sI_pos hz]
          rfl
        by_cases hh : e = wrE id o
        · rw [if_pos ⟨by rw [et, sI_pos hz]; omega, by rw [ew, hh]⟩, if_pos ⟨hz, hh⟩]
        · rw [if_neg (fun q => hh (shE_inj.1 (q.2.trans ew))), if_neg (fun q => hh q.2)]
    have e3 : rdR (nxH (fun _ => true) (shH a b h).ords) (id + a) (shO a b o) (shE a b e) = rdR (nxH (fun _ => true) h.ords) id o e := by
      unfold rdR
      rw [et, show (shO a b o).k = o.k + b from rfl, sh_nx ha hb hr hl h0]
      cases nxH (fun _ => true) h.ords (o.t, o.k) with
      | none => rfl
      | some z =>
        show (if z + a ≠ id + a ∧ shE a b e = rwE (id + a) (shO a b o) (z + a) then 1 else 0) = _
        have ew : rwE (id + a) (shO a b o) (z + a) = shE a b (rwE id o z) := rfl
        by_cases hh : z ≠ id ∧ e = rwE id o z
        · rw [if_pos ⟨by omega, by rw [ew, hh.2]⟩]
          exact (if_pos hh).symm
        · rw [if_neg (fun q => hh ⟨by omega, shE_inj.1 (q.2.trans ew)⟩)]
          exact (if_neg hh).symm
    unfold rdE
    rw [e1, e2, e3]
theorem sh_cnt {h : Hist} (ha : 0 ≤ a ∧ a ≤ 40000) (hb : 0 ≤ b ∧ b ≤ 40000) (hr : rightH h = true) (hl : lowH 1000000 h) {e : Edg} (hf : 1 ≤ e.f) : cntE (shH a b h) (fun _ => true) (shE a b e) = cntE h (fun _ => true) e := by
  rw [cntE_right hr, cntE_right (sh_rightH ha hb hr hl)]
  have e1 : wwF (nxH (fun _ => true) (shH a b h).ords) (fun _ => false) (shE a b e) = wwF (nxH (fun _ => true) h.ords) (fun _ => false) e := by
    have hnx : nxH (fun _ => true) (shH a b h).ords ((shE a b e).f, (shE a b e).k) = (nxH (fun _ => true) h.ords (e.f, e.k)).map (· + a) := by
      have := sh_nx ha hb hr hl (x := e.f) (k := e.k) (by omega)
      rw [sI_pos (by omega)] at this
      exact this
    have h1 : nxH (fun _ => true) (shH a b h).ords ((shE a b e).f, (shE a b e).k) = some (shE a b e).t ↔ nxH (fun _ => true) h.ords (e.f, e.k) = some e.t := by
      rw [hnx]
      show _ = some (e.t + a) ↔ _
      cases nxH (fun _ => true) h.ords (e.f, e.k) with
      | none => simp
      | some z =>
        simp only [Option.map_some, Option.some.injEq]
        omega
    have h2 : (shE a b e).f ≠ 0 ↔ e.f ≠ 0 := by show e.f + a ≠ 0 ↔ _; omega
    unfold wwF
    by_cases hh : e.kd = 1 ∧ e.f ≠ 0 ∧ nxH (fun _ => true) h.ords (e.f, e.k) = some e.t ∧ (fun _ => false) (e.f, e.k) = false
    · rw [if_pos ⟨hh.1, h2.2 hh.2.1, h1.2 hh.2.2.1, rfl⟩]
      exact (if_pos hh).symm
    · rw [if_neg (fun q => hh ⟨q.1, h2.1 q.2.1, h1.1 q.2.2.1, rfl⟩)]
      exact (if_neg hh).symm
  rw [e1]
  congr 1
  show sm _ (h.txs.map (shT a b)) = _
  rw [sm_map]
  refine sm_congr fun t ht => ?_
  show sm _ (t.ops.map (shO a b)) = _
  rw [sm_map]
  refine sm_congr fun o ho => ?_
  exact sh_rd ha hb hr hl (hl t ht).1.1 (low_ok hr hl ht o ho) e
def shHv (a b : Int) (x : Hvy) : Hvy := ⟨x.f + a, x.t + a, x.kd, x.k + b, x.n⟩
def shPk (a b : Int) (x : Pk.E) : Pk.E := (x.1 + a, x.2.1 + a, x.2.2.1, x.2.2.2 + b)
theorem sh_lt (x y : Pk.E) : Pk.ltE (shPk a b x) (shPk a b y) = Pk.ltE x y := by
  unfold Pk.ltE shPk
  dsimp only
  rw [decide_eq_decide]
  omega
/-- The edges are those, shifted, with the same counts. -/
theorem sh_lists {h : Hist} (ha : 0 ≤ a ∧ a ≤ 40000) (hb : 0 ≤ b ∧ b ≤ 40000) (hr : rightH h = true) (hl : lowH 1000000 h) {l m : List Hvy} (h1 : Lists (cntE h fun _ => true) l) (h2 : Lists (cntE (shH a b h) fun _ => true) m) : m = l.map (shHv a b) := by
  refine h2.one ?_
  obtain ⟨ks, a1, a2, rfl⟩ := h1
  have hpos : ∀ e : Edg, cntE h (fun _ => true) e ≠ 0 → 1 ≤ e.f := fun e he => by
    obtain ⟨u, v, hu, _⟩ := cnt_ends he
    have := (hl u (Hi.findT_mem hu)).1
    have := findT_id0 hu
    omega
  refine ⟨ks.map (shPk a b), ?_, fun x => ?_, ?_⟩
  · unfold Pk.Rises at *
    rw [List.pairwise_map]
    exact a1.imp fun {x y} e => by rw [sh_lt]; exact e
  · rw [List.mem_map]
    constructor
    · rintro ⟨y, hy, rfl⟩
      have hy := (a2 y).1 hy
      show cntE (shH a b h) _ (shE a b (ofE y)) ≠ 0
      rw [sh_cnt ha hb hr hl (hpos _ hy)]
      exact hy
    · intro hx
      obtain ⟨u, v, hu, _⟩ := cnt_ends hx
      have hm := Hi.findT_mem hu
      have he := findT_id0 hu
      obtain ⟨t, ht, rfl⟩ := List.mem_map.1 hm
      have h3 := (hl t ht).1
      have he : t.id + a = x.1 := he
      refine ⟨(x.1 - a, x.2.1 - a, x.2.2.1, x.2.2.2 - b), (a2 _).2 ?_, ?_⟩
      · rw [← sh_cnt ha hb hr hl (show 1 ≤ x.1 - a by omega)]
        have : shE a b (ofE (x.1 - a, x.2.1 - a, x.2.2.1, x.2.2.2 - b)) = ofE x := by
          unfold shE ofE
          dsimp only
          congr 1 <;> omega
        rw [this]
        exact hx
      · unfold shPk
        obtain ⟨x1, x2, x3, x4⟩ := x
        dsimp only
        simp
  · rw [List.map_map, List.map_map]
    refine List.map_congr_left fun y hy => ?_
    have hy := (a2 y).1 hy
    show shHv a b (hvy _ y) = hvy _ (shPk a b y)
    unfold hvy shHv
    dsimp only
    have : cntE (shH a b h) (fun _ => true) (ofE (shPk a b y)) = cntE h (fun _ => true) (ofE y) := sh_cnt ha hb hr hl (hpos _ hy)
    rw [this]
    rfl
end
end Go.Proofs.Ytmgkpabagpgilaa.Dg
namespace Go.Proofs.Ytmgkpabagpgilaa.Dg
open F Tx Hi Off
def two1 (o : Opr) : List Opr := if o.rd then [o, o] else [o]
def two (l : List Opr) : List Opr := l.flatMap two1
def twoT (t : Txn) : Txn := ⟨t.id, t.dn, two t.ops⟩
def twoH (h : Hist) : Hist := ⟨h.txs.map twoT, h.ords⟩
theorem two_cons (o : Opr) (l : List Opr) : two (o :: l) = two1 o ++ two l := rfl
theorem two_take (l : List Opr) (k : Nat) (h : k < l.length) : two (l.take (k + 1)) = two (l.take k) ++ two1 (l.getD k Opr.zero) := by
  unfold two
  rw [take_snoc l Opr.zero k h, List.flatMap_append]
  simp
theorem two_len (l : List Opr) : (two l).length ≤ 2 * l.length := by
  induction l with
  | nil => simp [two]
  | cons o l ih =>
    rw [two_cons, List.length_append, List.length_cons]
    have : (two1 o).length ≤ 2 := by unfold two1; split <;> simp
    omega
theorem two_mem {l : List Opr} {o : Opr} (h : o ∈ two l) : o ∈ l := by
  obtain ⟨x, hx, h1⟩ := List.mem_flatMap.1 h
  unfold two1 at h1
  split at h1
  · simp at h1; rw [h1]; exact hx
  · simp at h1; rw [h1]; exact hx
theorem two_wrN (l : List Opr) (key : Int) : wrN (two l) key = wrN l key := by
  induction l with
  | nil => rfl
  | cons o l ih =>
    have e1 : wrN (two1 o ++ two l) key = wrN (two1 o) key + wrN (two l) key := by unfold wrN; rw [List.countP_append]
    have e2 : wrN (o :: l) key = wrN [o] key + wrN l key := by unfold wrN; rw [show o :: l = [o] ++ l from rfl, List.countP_append]
    rw [two_cons, e1, e2, ih]
    congr 1
    unfold two1
    split
    · rename_i hr
      simp [wrN, hr]
    · rfl
theorem two_bare (l : List Opr) : bareL (two l) = bareL l := by
  induction l with
  | nil => rfl
  | cons o l ih =>
    rw [two_cons]
    unfold bareL at *
    rw [List.filter_append, ih, show o :: l = [o] ++ l from rfl, List.filter_append]
    congr 1
    unfold two1
    split
    · rename_i hr
      simp [hr]
    · rfl
theorem need_again (id : Int) (acc : List Ver) (o : Opr) : needStep id (needStep id acc o) o = needStep id acc o := by
  have hno : ∀ a, need id a o = false → needStep id a o = a := fun a h => by unfold needStep; rw [h]; rfl
  by_cases h : need id acc o = true
  · have : needStep id acc o = acc ++ [verO o] := by unfold needStep; rw [if_pos h]
    rw [this]
    refine hno _ ?_
    have : inV (acc ++ [verO o]) (verO o) = true := inV_iff.2 (by simp)
    unfold need
    rw [this]
    simp
  · have h : need id acc o = false := by simpa using h
    rw [hno acc h, hno acc h]
theorem two_needs (id : Int) (l : List Opr) : needsL id (two l) = needsL id l := by
  have : ∀ (l : List Opr) (acc : List Ver), (two l).foldl (needStep id) acc = l.foldl (needStep id) acc := by
    intro l
    induction l with
    | nil => intro acc; rfl
    | cons o l ih =>
      intro acc
      rw [two_cons, List.foldl_append, ih, List.foldl_cons]
      congr 1
      unfold two1
      split
      · simp only [List.foldl_cons, List.foldl_nil]
        exact need_again id acc o
      · rfl
  exact this l []
theorem wrN_twice (pre : List Opr) (o : Opr) (hr : o.rd = true) (key : Int) : wrN (pre ++ [o]) key = wrN pre key := by
  rw [wrN_snoc, if_neg (by rw [hr]; simp), Nat.add_zero]
theorem rt_pre (id : Int) : ∀ (l p q : List Opr), (∀ key, wrN p key = wrN q key) → rtGo id p l = rtGo id q l
  | [], _, _, _ => rfl
  | o :: l, p, q, h => by
    rw [rtGo, rtGo, h, rt_pre id l (p ++ [o]) (q ++ [o]) fun key => by rw [wrN_snoc, wrN_snoc, h]]
theorem two_rtGo (id : Int) : ∀ (l pre : List Opr), rtGo id pre (two l) = rtGo id pre l
  | [], _ => rfl
  | o :: l, pre => by
    rw [two_cons]
    unfold two1
    split
    · rename_i hr
      show rtGo id pre (o :: o :: two l) = _
      rw [rtGo, rtGo, rtGo, wrN_twice pre o hr]
      have e : rtGo id (pre ++ [o] ++ [o]) (two l) = rtGo id (pre ++ [o]) l := by
        rw [two_rtGo id l]
        exact rt_pre id l _ _ fun key => wrN_twice _ o hr key
      rw [e]
      split
      · rfl
      · split <;> rfl
    · show rtGo id pre (o :: two l) = _
      rw [rtGo, rtGo, two_rtGo id l]
theorem two_right (id : Int) (l : List Opr) (hl : l.length ≤ 1000) : rightT id (two l) = rightT id l := by
  have := two_len l
  unfold rightT
  rw [two_rtGo, if_neg (show ¬ 4095 < (two l).length by omega), if_neg (show ¬ 4095 < l.length by omega)]
theorem two_cntW (xs : List Txn) (t k : Int) : cntW (xs.map twoT) t k = cntW xs t k := by
  induction xs with
  | nil => rfl
  | cons x l ih =>
    rw [List.map_cons, cntW, cntW, ih]
    show (if x.id = t then wrN (two x.ops) k else 0) + _ = _
    rw [two_wrN]
theorem two_rises : ∀ (xs : List Txn) (la : Int), (∀ t ∈ xs, t.ops.length ≤ 1000) → risesT la (xs.map twoT) = risesT la xs
  | [], _, _ => rfl
  | x :: l, la, h => by
    rw [List.map_cons, risesT, risesT, two_rises l _ fun t ht => h t (List.mem_cons_of_mem _ ht)]
    show (if x.id ≤ la then false else if rightT x.id (two x.ops) = 0 then risesT x.id l else false) = _
    rw [two_right _ _ (h x List.mem_cons_self)]
theorem two_wrs (xs : List Txn) (key : Int) : wrsL (xs.map twoT) key = wrsL xs key := by
  unfold wrsL
  rw [List.filter_map, List.map_map]
  show (xs.filter fun t => t.dn && decide (0 < wrN (two t.ops) key)).map Txn.id = _
  congr 2
  funext t
  rw [two_wrN]
theorem two_allK (xs : List Txn) : allK (xs.map twoT) = allK xs := by
  unfold allK
  rw [List.flatMap_map]
  show (xs.flatMap fun t => if t.dn then (bareL (two t.ops)).map Opr.k else []) = _
  congr 1
  funext t
  rw [two_bare]
theorem two_rightH {h : Hist} (hl : ∀ t ∈ h.txs, t.ops.length ≤ 1000) : rightH (twoH h) = rightH h := by
  unfold rightH twoH
  dsimp only
  have e1 : ∀ key, wrsL (h.txs.map twoT) key = wrsL h.txs key := two_wrs h.txs
  have e2 : wrsL (h.txs.map twoT) = wrsL h.txs := funext e1
  have e3 : KW (h.txs.map twoT) = KW h.txs := by unfold KW; rw [two_allK]
  have e4 : (h.txs.map twoT).any (lackB (h.txs.map twoT)) = h.txs.any (lackB h.txs) := by
    rw [List.any_map]
    congr 1
    funext t
    show (needsL t.id (two t.ops)).any (fun v => decide ((cntW (h.txs.map twoT) v.t v.k : Int) < v.n)) = (needsL t.id t.ops).any (fun v => decide ((cntW h.txs v.t v.k : Int) < v.n))
    rw [two_needs]
    congr 1
    funext v
    rw [two_cntW]
  rw [List.length_map, two_rises _ _ hl, e2, e3, e4]
theorem two_laH (P : Int → Bool) (xs : List Txn) (t k : Int) : laH P (xs.map twoT) t k = laH P xs t k := by
  induction xs with
  | nil => rfl
  | cons x l ih =>
    rw [List.map_cons, laH, laH, ih]
    show (if x.id = t then laT P x.dn (two x.ops) k else 0) + _ = _
    unfold laT
    rw [two_wrN]
theorem two_sm (f : Opr → Nat) (hf : ∀ o, o.rd = false → f o = 0) (l : List Opr) : sm f (two l) = 2 * sm f l := by
  induction l with
  | nil => rfl
  | cons o l ih =>
    rw [two_cons, sm_append, ih, sm]
    unfold two1
    split
    · simp only [sm]; omega
    · rename_i hr
      simp only [sm]
      rw [hf o (by simpa using hr)]
      omega
theorem rdE_write {nx : Int × Int → Option Int} {la : Int × Int → Int} {P : Int → Bool} {id : Int} {d : Bool} {o : Opr} {e : Edg} (h : o.rd = false) : rdE nx la P id d o e = 0 := by
  unfold rdE rdC
  rw [h]
  simp
theorem rdE_kind {nx : Int × Int → Option Int} {la : Int × Int → Int} {P : Int → Bool} {id : Int} {d : Bool} {o : Opr} {e : Edg} (h : e.kd = 1) : rdE nx la P id d o e = 0 := by
  unfold rdE
  split
  · have h1 : rdW id o e = 0 := by
      unfold rdW wrE
      rw [if_neg]
      rintro ⟨_, rfl⟩
      cases h
    have h2 : rdR nx id o e = 0 := by
      unfold rdR rwE
      split
      · rw [if_neg]
        rintro ⟨_, rfl⟩
        cases h
      · rfl
    rw [h1, h2]
  · rfl
def times (kd : Int) : Nat := if kd = 1 then 1 else 2
theorem two_cnt {h : Hist} (hl : ∀ t ∈ h.txs, t.ops.length ≤ 1000) (P : Int → Bool) (e : Edg) : cntE (twoH h) P e = times e.kd * cntE h P e := by
  cases hr : rightH h with
  | false =>
    rw [cntE_wrong hr, cntE_wrong (by rw [two_rightH hl]; exact hr), Nat.mul_zero]
  | true =>
    rw [cntE_right hr, cntE_right (by rw [two_rightH hl]; exact hr)]
    have hla : laF (twoH h) P = laF h P := funext fun q => by
      show ((laH P (h.txs.map twoT) q.1 q.2 : Nat) : Int) = _
      rw [two_laH]
    rw [hla]
    show wwF (nxH P h.ords) _ e + sm (fun t => sm (fun o => rdE (nxH P h.ords) (laF h P) P t.id t.dn o e) t.ops) (h.txs.map twoT) = _
    rw [sm_map]
    have e1 : sm (fun t => sm (fun o => rdE (nxH P h.ords) (laF h P) P (twoT t).id (twoT t).dn o e) (twoT t).ops) h.txs = sm (fun t => 2 * sm (fun o => rdE (nxH P h.ords) (laF h P) P t.id t.dn o e) t.ops) h.txs :=
      sm_congr fun t _ => two_sm _ (fun o ho => rdE_write ho) _
    have e2 : ∀ (f : Txn → Nat) (l : List Txn), sm (fun t => 2 * f t) l = 2 * sm f l := fun f l => by
      induction l with
      | nil => rfl
      | cons x l ih => rw [sm, sm, ih]; omega
    rw [e1, e2]
    by_cases hk : e.kd = 1
    · have e3 : sm (fun t => sm (fun o => rdE (nxH P h.ords) (laF h P) P t.id t.dn o e) t.ops) h.txs = 0 := by
        rw [sm_congr (g := fun _ => 0), sm_zero]
        intro t _
        rw [sm_congr (g := fun _ => 0), sm_zero]
        intro o _
        exact rdE_kind hk
      rw [e3]
      unfold times
      rw [if_pos hk]
      omega
    · have e3 : wwF (nxH P h.ords) (fun _ => false) e = 0 := by
        unfold wwF
        rw [if_neg fun hh => hk hh.1]
      rw [e3]
      unfold times
      rw [if_neg hk]
      omega
def timesH (x : Hvy) : Hvy := ⟨x.f, x.t, x.kd, x.k, ((times x.kd : Nat) : Int) * x.n⟩
theorem times_pos (kd : Int) : times kd ≠ 0 := by unfold times; split <;> decide
/-- The edges are the same, with so many more counts. -/
theorem two_lists {h : Hist} (hl : ∀ t ∈ h.txs, t.ops.length ≤ 1000) {P : Int → Bool} {l m : List Hvy} (h1 : Lists (cntE h P) l) (h2 : Lists (cntE (twoH h) P) m) : m = l.map timesH := by
  refine h2.one ?_
  obtain ⟨ks, a1, a2, rfl⟩ := h1
  refine ⟨ks, a1, fun x => ?_, ?_⟩
  · rw [a2, two_cnt hl]
    have := times_pos (ofE x).kd
    constructor
    · intro hh; exact Nat.mul_ne_zero this hh
    · intro hh e; rw [e, Nat.mul_zero] at hh; exact hh rfl
  · rw [List.map_map]
    refine List.map_congr_left fun x _ => ?_
    show timesH (hvy (cntE h P) x) = hvy (cntE (twoH h) P) x
    unfold timesH hvy
    rw [two_cnt hl]
    dsimp only
    rw [Int.natCast_mul]
    rfl
theorem two_ok {h : Hist} (ht : ∀ t ∈ h.txs, Txn.ok t) : ∀ t ∈ (twoH h).txs, Txn.ok t := by
  intro t hm
  obtain ⟨x, hx, rfl⟩ := List.mem_map.1 hm
  exact ⟨(ht x hx).1, fun o ho => (ht x hx).2 o (two_mem ho)⟩
end Go.Proofs.Ytmgkpabagpgilaa.Dg
namespace Go.Proofs.Ytmgkpabagpgilaa.Dg
open Go.ChangeShapes Go.WideShapes Go.ChangeAt Go.RowKit Base F Tx Hi Off
/-- A history's box. -/
def boxHi (v u : Value) : Obj := .cells #[v, u] 25
theorem cellsHi {w : World} {g : Nat} {v u : Value} (h : w.heap[g]? = some (boxHi v u)) : g < w.heap.size ∧ (w.cell? ⟨g, 0, none⟩ = some v ∧ w.cell? ⟨g, 1, none⟩ = some u) ∧ w.frozen? ⟨g, 0, none⟩ = false ∧ w.frozen? ⟨g, 1, none⟩ = false := by
  refine ⟨heap_lt h, ?_⟩
  unfold boxHi at h
  simp [World.cell?, World.frozen?, h]
set_option maxRecDepth 100000 in
theorem wpList_store_hi {ops : Array Oper} {rest : List Oper} {o : Oper} {a : Act} {w : World} {Q : Exit → Act → World → Prop} (hgd : o.guard = none) (x y : Operand) (ho : o.op = .store 25 x y)
    (g : Nat) (p : Option Addr) (n c : Nat) (q : Option Addr) (m d : Nat) (c0 : Array Value) (hx : a.eval x = .pointer (some ⟨g, 0, none⟩)) (hy : a.eval y = .agg #[.slice p n c, .slice q m d]) (hg : w.heap[g]? = some (.cells c0 25)) (h3 : c0.size = 2)
    (h : ∀ w', Stored w g (boxHi (.slice p n c) (.slice q m d)) w' → wpList Try.prog ops Q rest (a.put o.dst undef) w') : wpList Try.prog ops Q (o :: rest) a w :=
  wpList_store_row hgd _ x y ho g _ hx hy 25 _ hg (by kernel_rfl) (by rw [h3]; rfl) (by simp [Value.oneCell']) (h _ (stored_setRow _ _ _ _ _ hg))
set_option maxRecDepth 100000 in
theorem results_hi {fn : Func} {p : Tmp} (h : fn.results = #[.cell p 25]) (tmps : Array Value) (w : World) (g : Nat) (v u : Value)
    (hp : tmps.getD p undef = .pointer (some ⟨g, 0, none⟩)) (hg : w.heap[g]? = some (boxHi v u)) : (results fn tmps).run Try.prog w = .ok (.agg #[v, u]) w :=
  results_cell_row h tmps w g _ _ _ _ hp hg Try.underlying25 rfl (by kernel_rfl)
theorem storedHi {w : World} {g : Nat} {v u : Value} (h : w.heap[g]? = some (boxHi v u)) (x : Value) : Stored w g (boxHi x u) (w.setCell ⟨g, 0, none⟩ x) := by
  unfold boxHi at h
  refine ⟨rfl, rfl, rfl, by simp [World.setCell], ?_, fun j hj => Below.heap_setCell _ _ _ _ hj⟩
  simp [World.setCell, Array.getElem?_modify, h, boxHi]
theorem ownTxc_slice {B : Nat} {w : World} {v : Value} {zs : List Txc} (h : OwnTxc B w v zs) : ∃ p c, v = .slice p zs.length c ∧ zs.length ≤ c ∧ (p = none → c = 0) := by
  rcases h.2 with ⟨hv, h0⟩ | ⟨g, cap, cur, hv, _, _, hc, _⟩
  · exact ⟨none, 0, by rw [hv, h0], by omega, fun _ => rfl⟩
  · exact ⟨_, cap, hv, hc, fun e => by cases e⟩
theorem own_apart {B B' : Nat} {w : World} {v s : Value} {zs : List Txc} {l : List Opr} (h : OwnTxc B w v zs) (h' : OwnOpr B' w s l) : s.ownBlock = none ∨ s.ownBlock ≠ v.ownBlock := by
  rcases h'.2 with ⟨hv, _⟩ | ⟨g', cap', cur', hv', _, hg', _⟩
  · left; rw [hv]; rfl
  · right
    rcases h.2 with ⟨hv, _⟩ | ⟨g, cap, cur, hv, _, hg, _⟩
    · rw [hv, hv']; intro e; cases e
    · rw [hv, hv']
      intro e
      have : g' = g := by
        have e : some g' = some g := e
        injection e
      subst this
      rw [hg] at hg'
      injection hg' with hg'
      injection hg' with _ ht
      exact absurd ht (by decide)
/-- The transactions whose cells are zs. -/
def OT (B : Nat) (w : World) (zs : List Txc) (ts : List Txn) : Prop := zs.length = ts.length ∧ ∀ k, k < ts.length → (zs.getD k Txc.zero).i = (ts.getD k Txn.zero).id ∧ (zs.getD k Txc.zero).d = (ts.getD k Txn.zero).dn ∧ OwnOpr B w (.slice (zs.getD k Txc.zero).s.1 (zs.getD k Txc.zero).s.2.1 (zs.getD k Txc.zero).s.2.2) (ts.getD k Txn.zero).ops
theorem OT.below {B : Nat} {w w1 : World} {zs : List Txc} {ts : List Txn} (h : OT B w zs ts) (hb : Below w.heap.size w w1) : OT B w1 zs ts :=
  ⟨h.1, fun k hk => ⟨(h.2 k hk).1, (h.2 k hk).2.1, (h.2 k hk).2.2.below hb⟩⟩
theorem OT.kept {B : Nat} {w w1 : World} {zs : List Txc} {ts : List Txn} (h : OT B w zs ts) {row : Option Nat} (hg : w.grownBy w1 row) (hne : ∀ s l, OwnOpr B w s l → s.ownBlock = none ∨ s.ownBlock ≠ row) : OT B w1 zs ts :=
  ⟨h.1, fun k hk => ⟨(h.2 k hk).1, (h.2 k hk).2.1, (h.2 k hk).2.2.kept hg (hne _ _ (h.2 k hk).2.2)⟩⟩
theorem OT.snoc {B : Nat} {w : World} {zs : List Txc} {ts : List Txn} (h : OT B w zs ts) {c : Txc} {t : Txn} (hi : c.i = t.id) (hd : c.d = t.dn) (ho : OwnOpr B w (.slice c.s.1 c.s.2.1 c.s.2.2) t.ops) : OT B w (zs ++ [c]) (ts ++ [t]) := by
  refine ⟨by simp [h.1], fun k hk => ?_⟩
  by_cases hlt : k < ts.length
  · have e1 : (zs ++ [c]).getD k Txc.zero = zs.getD k Txc.zero := by rw [List.getD_eq_getElem?_getD, List.getD_eq_getElem?_getD, List.getElem?_append_left (by rw [h.1]; exact hlt)]
    have e2 : (ts ++ [t]).getD k Txn.zero = ts.getD k Txn.zero := by rw [List.getD_eq_getElem?_getD, List.getD_eq_getElem?_getD, List.getElem?_append_left hlt]
    rw [e1, e2]
    exact h.2 k hlt
  · have hk' : k = ts.length := by simp at hk; omega
    have e1 : (zs ++ [c]).getD k Txc.zero = c := by rw [List.getD_eq_getElem?_getD, hk', ← h.1]; simp
    have e2 : (ts ++ [t]).getD k Txn.zero = t := by rw [List.getD_eq_getElem?_getD, hk']; simp
    rw [e1, e2]
    exact ⟨hi, hd, ho⟩
/-- On the way: the result's box, its own box, its transactions. -/
def DI (w wr : World) (u v : Value) (zs : List Txc) (ts : List Txn) : Prop :=
  wr.heap[w.heap.size + 1]? = some (boxHi (.slice none 0 0) (.slice none 0 0)) ∧ wr.heap[w.heap.size + 1 + 1]? = some (boxHi v u) ∧ OwnTxc (w.heap.size + 3) wr v zs ∧ OT (w.heap.size + 3) wr zs ts ∧ Aft w wr
theorem DI.below {w wr w' : World} {u v : Value} {zs : List Txc} {ts : List Txn} (h : DI w wr u v zs ts) (hb : Aft wr w') : DI w w' u v zs ts :=
  ⟨(hb.block _ (heap_lt h.1)).trans h.1, (hb.block _ (heap_lt h.2.1)).trans h.2.1, h.2.2.1.below hb, h.2.2.2.1.below hb, h.2.2.2.2.trans hb⟩
theorem DI.room {w wr : World} {u v : Value} {zs : List Txc} {ts : List Txn} (h : DI w wr u v zs ts) (o : Obj) : w.heap.size + 3 ≤ (wr.alloc o).heap.size := by
  have := heap_lt h.2.1
  simp
  omega
theorem DI.lay {w wr : World} {u v : Value} {zs : List Txc} {ts : List Txn} (h : DI w wr u v zs ts) (o : Obj) : DI w (wr.alloc o) u v zs ts := h.below (Aft.one o)
theorem ownOpr_base {B : Nat} {w : World} {s : Value} {l : List Opr} (h : OwnOpr B w s l) {g : Nat} (hg : g < B) : s.ownBlock = none ∨ s.ownBlock ≠ some g := .inr fun e => by have := (h.base _ e).1; omega
theorem DI.app {w wr w' : World} {u v v' : Value} {zs : List Txc} {ts : List Txn} (h : DI w wr u v zs ts) {c : Txc} {t : Txn} (hi : c.i = t.id) (hd : c.d = t.dn) (hop : OwnOpr (w.heap.size + 3) wr (.slice c.s.1 c.s.2.1 c.s.2.2) t.ops) (ho : OwnTxc (w.heap.size + 3) w' v' (zs ++ [c])) (hg : wr.grownBy w' v.ownBlock) :
    (w'.cell? ⟨w.heap.size + 1 + 1, 0, none⟩ = some v ∧ w'.frozen? ⟨w.heap.size + 1 + 1, 0, none⟩ = false) ∧ DI w (w'.setCell ⟨w.heap.size + 1 + 1, 0, none⟩ v') u v' (zs ++ [c]) (ts ++ [t]) := by
  have hne : ∀ j, j ≤ w.heap.size + 1 + 1 → some j ≠ v.ownBlock := fun j hj e => by have := (World.ownsRow.lt h.2.2.1 j e.symm).1; omega
  have h1 : w'.heap[w.heap.size + 1]? = some (boxHi (.slice none 0 0) (.slice none 0 0)) := (hg.block _ (heap_lt h.1) (hne _ (by omega))).trans h.1
  have h2 : w'.heap[w.heap.size + 1 + 1]? = some (boxHi v u) := (hg.block _ (heap_lt h.2.1) (hne _ (by omega))).trans h.2.1
  have hs := storedHi h2 v'
  have hot : OT (w.heap.size + 3) w' (zs ++ [c]) (ts ++ [t]) := (h.2.2.2.1.snoc hi hd hop).kept hg fun s l hsl => own_apart h.2.2.1 hsl
  refine ⟨⟨(cellsHi h2).2.1.1, (cellsHi h2).2.2.1⟩, (hs.2.2.2.2.2 _ (by omega)).trans h1, hs.2.2.2.2.1, World.ownsRow.kept ho (row := some (w.heap.size + 1 + 1)) (stored_grown hs) (.inr fun e => by have := (World.ownsRow.lt ho _ e).1; omega), hot.kept (row := some (w.heap.size + 1 + 1)) (stored_grown hs) (fun s l hsl => ownOpr_base hsl (by omega)), ?_⟩
  exact hs.below (Below.grown h.2.2.2.2 hg h.2.2.2.2.size (fun k hk => by have := (World.ownsRow.lt h.2.2.1 k hk).1; omega)) (by omega)
/-- On the way to one transaction: its box, its operations. -/
def JN (w wr : World) (id : Int) (d : Bool) (v : Value) (zs : List Opr) : Prop :=
  wr.heap[w.heap.size + 1]? = some (boxT id d v) ∧ OwnOpr (w.heap.size + 2) wr v zs ∧ Aft w wr
theorem JN.lay {w wr : World} {id : Int} {d : Bool} {v : Value} {zs : List Opr} (h : JN w wr id d v zs) (o : Obj) : JN w (wr.alloc o) id d v zs :=
  ⟨heap_alloc_lt _ _ _ _ h.1, h.2.1.lay rfl o, h.2.2.lay o⟩
theorem JN.room {w wr : World} {id : Int} {d : Bool} {v : Value} {zs : List Opr} (h : JN w wr id d v zs) (o : Obj) : w.heap.size + 2 ≤ (wr.alloc o).heap.size := by
  have := heap_lt h.1
  simp
  omega
theorem JN.app {w wr w' : World} {id : Int} {d : Bool} {v v' : Value} {zs zs' : List Opr} (h : JN w wr id d v zs) (ho : OwnOpr (w.heap.size + 2) w' v' zs') (hg : wr.grownBy w' v.ownBlock) :
    (w'.cell? ⟨w.heap.size + 1, 2, none⟩ = some v ∧ w'.frozen? ⟨w.heap.size + 1, 2, none⟩ = false) ∧ JN w (w'.setCell ⟨w.heap.size + 1, 2, none⟩ v') id d v' zs' := by
  have h2 : w'.heap[w.heap.size + 1]? = some (boxT id d v) := (hg.block _ (heap_lt h.1) (fun e => by have := (h.2.1.base _ e.symm).1; omega)).trans h.1
  have hs := storedT_ops h2 v'
  refine ⟨⟨(cellsT h2).2.1.2.2, (cellsT h2).2.2.2.2⟩, hs.2.2.2.2.1, ho.kept (row := some (w.heap.size + 1)) (stored_grown hs) (.inr fun e => by have := (ho.base _ e).1; omega), ?_⟩
  exact hs.below (Below.grown h.2.2 hg h.2.2.size (fun k hk => by have := (h.2.1.base k hk).1; omega)) (by omega)
def boxO (x : Opr) : Obj := .cells #[.bool x.rd, .int .i64 x.k, .int .i64 x.t, .int .i64 x.n] 45
theorem JN.box {w wr w' : World} {id : Int} {d : Bool} {v : Value} {zs : List Opr} (h : JN w wr id d v zs) (x : Opr) (o : Obj) (hg : ((wr.alloc (boxO x)).alloc o).grownBy w' v.ownBlock) (v' : Value) :
    ((w'.setCell ⟨w.heap.size + 1, 2, none⟩ v').cell? ⟨wr.heap.size, 0, none⟩ = some (.bool x.rd) ∧ (w'.setCell ⟨w.heap.size + 1, 2, none⟩ v').cell? ⟨wr.heap.size, 1, none⟩ = some (.int .i64 x.k) ∧ (w'.setCell ⟨w.heap.size + 1, 2, none⟩ v').cell? ⟨wr.heap.size, 2, none⟩ = some (.int .i64 x.t) ∧ (w'.setCell ⟨w.heap.size + 1, 2, none⟩ v').cell? ⟨wr.heap.size, 3, none⟩ = some (.int .i64 x.n)) ∧ wr.heap.size < (w'.setCell ⟨w.heap.size + 1, 2, none⟩ v').heap.size := by
  have h0 : ((wr.alloc (boxO x)).alloc o).heap[wr.heap.size]? = some (boxO x) := heap_alloc_lt _ _ _ _ (heap_alloc_at _ _ _ rfl)
  have h1 : w'.heap[wr.heap.size]? = some (boxO x) := (hg.block _ (heap_lt h0) (fun e => by have := (h.2.1.base _ e.symm).2; omega)).trans h0
  have h2 : (w'.setCell ⟨w.heap.size + 1, 2, none⟩ v').heap[wr.heap.size]? = some (boxO x) := (Below.heap_setCell _ _ _ _ (by have := heap_lt h.1; show wr.heap.size ≠ w.heap.size + 1; omega)).trans h1
  refine ⟨?_, heap_lt h2⟩
  unfold boxO at h2
  simp [World.cell?, h2]
theorem hist_of {w wr : World} {B : Nat} {u v : Value} {zs : List Txc} {h : Hist} (ho : Ords w u h.ords) (hl : h.txs.length ≤ 100000) (h3 : OwnTxc B wr v zs) (h4 : OT B wr zs (twoH h).txs) (h5 : Aft w wr) : HistV wr v u (twoH h) := by
  have hlen : (twoH h).txs.length ≤ 100000 := by show (h.txs.map twoT).length ≤ _; rw [List.length_map]; exact hl
  refine ⟨?_, ho.below h5⟩
  generalize (twoH h).txs = ts at h4 hlen ⊢
  obtain ⟨e1, hk⟩ := h4
  obtain ⟨p, c, hv, hc, hp⟩ := ownTxc_slice h3
  have hL := h3.list (by omega)
  rw [e1] at hv hc
  refine ⟨⟨p, c, hv, hc, hp, by omega⟩, fun k hkt => ?_⟩
  rcases hL with ⟨_, h0⟩ | ⟨g, o, c', hv', _, hg, _, hcell⟩
  · rw [h0] at e1
    simp at e1
    omega
  · rw [e1] at hv' hcell
    obtain ⟨a0, a1, a2⟩ := hcell k hkt
    obtain ⟨i1, i2, i3⟩ := hk k hkt
    rw [i1] at a0
    rw [i2] at a1
    obtain ⟨ps, cs, hs, hcs⟩ := ownOpr_slice i3
    have hn : (ts.getD k Txn.zero).ops.length ≤ 9223372036854775807 := by
      rcases i3.2 with ⟨_, h0⟩ | ⟨_, _, _, _, _, _, _, hm, _⟩
      · omega
      · simp only [maxLen] at hm; omega
    exact ⟨g, o, c', hv', hg, a0, a1, _, a2, ⟨⟨ps, cs, hs, hcs⟩, (i3.list hn).mono (Nat.zero_le _)⟩⟩
/-- What doubled leaves. -/
def DblP (h : Hist) (u : Value) (w : World) (e : Ending) (w' : World) : Prop := ∃ v, e = .returned (.agg #[v, u]) ∧ HistV w' v u (twoH h) ∧ Aft w w'
end Go.Proofs.Ytmgkpabagpgilaa.Dg
namespace Go.Proofs.Ytmgkpabagpgilaa.Dg
open Go.ChangeShapes Go.WideShapes Go.ChangeAt Go.RowKit Base F Tx Hi Off Lst
/-- An order's box. -/
def boxR (k : Int) (s : Value) : Obj := .cells #[.int .i64 k, s] 43
theorem cellsR {w : World} {g : Nat} {k : Int} {s : Value} (h : w.heap[g]? = some (boxR k s)) : g < w.heap.size ∧ (w.cell? ⟨g, 0, none⟩ = some (.int .i64 k) ∧ w.cell? ⟨g, 1, none⟩ = some s) ∧ w.frozen? ⟨g, 0, none⟩ = false ∧ w.frozen? ⟨g, 1, none⟩ = false := by
  refine ⟨heap_lt h, ?_⟩
  unfold boxR at h
  simp [World.cell?, World.frozen?, h]
theorem storedR {w : World} {g : Nat} {k : Int} {s : Value} (h : w.heap[g]? = some (boxR k s)) (x : Value) : Stored w g (boxR k x) (w.setCell ⟨g, 1, none⟩ x) := by
  unfold boxR at h
  refine ⟨rfl, rfl, rfl, by simp [World.setCell], ?_, fun j hj => Below.heap_setCell _ _ _ _ hj⟩
  simp [World.setCell, Array.getElem?_modify, h, boxR]
theorem storedHi1 {w : World} {g : Nat} {v u : Value} (h : w.heap[g]? = some (boxHi v u)) (x : Value) : Stored w g (boxHi v x) (w.setCell ⟨g, 1, none⟩ x) := by
  unfold boxHi at h
  refine ⟨rfl, rfl, rfl, by simp [World.setCell], ?_, fun j hj => Below.heap_setCell _ _ _ _ hj⟩
  simp [World.setCell, Array.getElem?_modify, h, boxHi]
theorem ownOrc_slice {B : Nat} {w : World} {v : Value} {zs : List Orc} (h : OwnOrc B w v zs) : ∃ p c, v = .slice p zs.length c ∧ zs.length ≤ c ∧ (p = none → c = 0) := by
  rcases h.2 with ⟨hv, h0⟩ | ⟨g, cap, cur, hv, _, _, hc, _⟩
  · exact ⟨none, 0, by rw [hv, h0], by omega, fun _ => rfl⟩
  · exact ⟨_, cap, hv, hc, fun e => by cases e⟩
theorem ownI_slice {B : Nat} {w : World} {v : Value} {zs : List Int} (h : OwnI B w v zs) : ∃ p c, v = .slice p zs.length c ∧ zs.length ≤ c := by
  rcases h.2 with ⟨hv, h0⟩ | ⟨g, cap, cur, hv, _, _, hc, _⟩
  · exact ⟨none, 0, by rw [hv, h0], by omega⟩
  · exact ⟨_, cap, hv, hc⟩
theorem ownI_mono {B B' : Nat} {w : World} {v : Value} {zs : List Int} (h : OwnI B w v zs) (hb : B' ≤ B) : OwnI B' w v zs := by
  refine ⟨h.1, ?_⟩
  rcases h.2 with hn | ⟨g, cap, cur, hv, hB, rest⟩
  · exact .inl hn
  · exact .inr ⟨g, cap, cur, hv, Nat.le_trans hb hB, rest⟩
theorem rows_apart {w : World} {B B' : Nat} {e e' : TypeId} {k k' n n' : Nat} {v s : Value} {c c' : List Value} (h : w.ownsRow B e k v n c) (h' : w.ownsRow B' e' k' s n' c') (he : e' ≠ e) : s.ownBlock = none ∨ s.ownBlock ≠ v.ownBlock := by
  rcases h'.2 with ⟨hv, _⟩ | ⟨g', cap', cur', hv', _, hg', _⟩
  · left; rw [hv]; rfl
  · right
    rcases h.2 with ⟨hv, _⟩ | ⟨g, cap, cur, hv, _, hg, _⟩
    · rw [hv, hv']; intro e; cases e
    · rw [hv, hv']
      intro e
      have : g' = g := by
        have e : some g' = some g := e
        injection e
      subst this
      rw [hg] at hg'
      injection hg' with hg'
      injection hg' with _ ht
      exact he ht.symm
theorem ownI_base {B : Nat} {w : World} {s : Value} {l : List Int} (h : OwnI B w s l) {g : Nat} (hg : g < B) : s.ownBlock = none ∨ s.ownBlock ≠ some g := .inr fun e => by have := (World.ownsRow.lt h _ e).1; omega
/-- The orders whose cells are zs. -/
def OO (B : Nat) (w : World) (zs : List Orc) (ts : List Ordr) : Prop := zs.length = ts.length ∧ ∀ k, k < ts.length → (zs.getD k Orc.zero).i = (ts.getD k Ordr.zero).key ∧ OwnI B w (.slice (zs.getD k Orc.zero).s.1 (zs.getD k Orc.zero).s.2.1 (zs.getD k Orc.zero).s.2.2) (ts.getD k Ordr.zero).txs
theorem OO.below {B : Nat} {w w1 : World} {zs : List Orc} {ts : List Ordr} (h : OO B w zs ts) (hb : Below w.heap.size w w1) : OO B w1 zs ts :=
  ⟨h.1, fun k hk => ⟨(h.2 k hk).1, (h.2 k hk).2.below hb⟩⟩
theorem OO.kept {B : Nat} {w w1 : World} {zs : List Orc} {ts : List Ordr} (h : OO B w zs ts) {row : Option Nat} (hg : w.grownBy w1 row) (hne : ∀ s l, OwnI B w s l → s.ownBlock = none ∨ s.ownBlock ≠ row) : OO B w1 zs ts :=
  ⟨h.1, fun k hk => ⟨(h.2 k hk).1, World.ownsRow.kept (h.2 k hk).2 hg (hne _ _ (h.2 k hk).2)⟩⟩
theorem OO.snoc {B : Nat} {w : World} {zs : List Orc} {ts : List Ordr} (h : OO B w zs ts) {c : Orc} {t : Ordr} (hi : c.i = t.key) (ho : OwnI B w (.slice c.s.1 c.s.2.1 c.s.2.2) t.txs) : OO B w (zs ++ [c]) (ts ++ [t]) := by
  refine ⟨by simp [h.1], fun k hk => ?_⟩
  by_cases hlt : k < ts.length
  · have e1 : (zs ++ [c]).getD k Orc.zero = zs.getD k Orc.zero := by rw [List.getD_eq_getElem?_getD, List.getD_eq_getElem?_getD, List.getElem?_append_left (by rw [h.1]; exact hlt)]
    have e2 : (ts ++ [t]).getD k Ordr.zero = ts.getD k Ordr.zero := by rw [List.getD_eq_getElem?_getD, List.getD_eq_getElem?_getD, List.getElem?_append_left hlt]
    rw [e1, e2]
    exact h.2 k hlt
  · have hk' : k = ts.length := by simp at hk; omega
    have e1 : (zs ++ [c]).getD k Orc.zero = c := by rw [List.getD_eq_getElem?_getD, hk', ← h.1]; simp
    have e2 : (ts ++ [t]).getD k Ordr.zero = t := by rw [List.getD_eq_getElem?_getD, hk']; simp
    rw [e1, e2]
    exact ⟨hi, ho⟩
/-- On the way, behind the transactions: the orders too. -/
def DO (w wr : World) (v u : Value) (zs : List Txc) (ts : List Txn) (ys : List Orc) (os : List Ordr) : Prop :=
  DI w wr u v zs ts ∧ OwnOrc (w.heap.size + 3) wr u ys ∧ OO (w.heap.size + 3) wr ys os
theorem DO.below {w wr w' : World} {v u : Value} {zs : List Txc} {ts : List Txn} {ys : List Orc} {os : List Ordr} (h : DO w wr v u zs ts ys os) (hb : Aft wr w') : DO w w' v u zs ts ys os := ⟨h.1.below hb, h.2.1.below hb, h.2.2.below hb⟩
theorem DO.lay {w wr : World} {v u : Value} {zs : List Txc} {ts : List Txn} {ys : List Orc} {os : List Ordr} (h : DO w wr v u zs ts ys os) (o : Obj) : DO w (wr.alloc o) v u zs ts ys os := h.below (Aft.one o)
theorem DO.app {w wr w' : World} {v u u' : Value} {zs : List Txc} {ts : List Txn} {ys : List Orc} {os : List Ordr} (h : DO w wr v u zs ts ys os) {c : Orc} {t : Ordr} (hi : c.i = t.key) (hop : OwnI (w.heap.size + 3) wr (.slice c.s.1 c.s.2.1 c.s.2.2) t.txs) (ho : OwnOrc (w.heap.size + 3) w' u' (ys ++ [c])) (hg : wr.grownBy w' u.ownBlock) :
    (w'.cell? ⟨w.heap.size + 1 + 1, 1, none⟩ = some u ∧ w'.frozen? ⟨w.heap.size + 1 + 1, 1, none⟩ = false) ∧ DO w (w'.setCell ⟨w.heap.size + 1 + 1, 1, none⟩ u') v u' zs ts (ys ++ [c]) (os ++ [t]) := by
  obtain ⟨hd, hown, hoo⟩ := h
  have hne : ∀ j, j ≤ w.heap.size + 1 + 1 → some j ≠ u.ownBlock := fun j hj e => by have := (World.ownsRow.lt hown j e.symm).1; omega
  have h1 : w'.heap[w.heap.size + 1]? = some (boxHi (.slice none 0 0) (.slice none 0 0)) := (hg.block _ (heap_lt hd.1) (hne _ (by omega))).trans hd.1
  have h2 : w'.heap[w.heap.size + 1 + 1]? = some (boxHi v u) := (hg.block _ (heap_lt hd.2.1) (hne _ (by omega))).trans hd.2.1
  have hs := storedHi1 h2 u'
  have hv : OwnTxc (w.heap.size + 3) w' v zs := World.ownsRow.kept hd.2.2.1 hg (rows_apart hown hd.2.2.1 (by decide))
  have hot : OT (w.heap.size + 3) w' zs ts := hd.2.2.2.1.kept hg fun s l hsl => rows_apart hown hsl (by decide)
  have hoo2 : OO (w.heap.size + 3) w' (ys ++ [c]) (os ++ [t]) := (hoo.snoc hi hop).kept hg fun s l hsl => rows_apart hown hsl (by decide)
  refine ⟨⟨(cellsHi h2).2.1.2, (cellsHi h2).2.2.2⟩, ⟨(hs.2.2.2.2.2 _ (by omega)).trans h1, hs.2.2.2.2.1, World.ownsRow.kept hv (row := some (w.heap.size + 1 + 1)) (stored_grown hs) (.inr fun e => by have := (World.ownsRow.lt hv _ e).1; omega), hot.kept (row := some (w.heap.size + 1 + 1)) (stored_grown hs) (fun s l hsl => ownOpr_base hsl (by omega)), ?_⟩, World.ownsRow.kept ho (row := some (w.heap.size + 1 + 1)) (stored_grown hs) (.inr fun e => by have := (World.ownsRow.lt ho _ e).1; omega), hoo2.kept (row := some (w.heap.size + 1 + 1)) (stored_grown hs) (fun s l hsl => ownI_base hsl (by omega))⟩
  exact hs.below (Below.grown hd.2.2.2.2 hg hd.2.2.2.2.size (fun k hk => by have := (World.ownsRow.lt hown k hk).1; omega)) (by omega)
/-- On the way to one order: its box, its ids. -/
def KN (w wr : World) (k : Int) (v : Value) (zs : List Int) : Prop := wr.heap[w.heap.size + 1]? = some (boxR k v) ∧ OwnI (w.heap.size + 2) wr v zs ∧ Aft w wr
theorem KN.lay {w wr : World} {k : Int} {v : Value} {zs : List Int} (h : KN w wr k v zs) (o : Obj) : KN w (wr.alloc o) k v zs := ⟨heap_alloc_lt _ _ _ _ h.1, h.2.1.lay rfl o, h.2.2.lay o⟩
theorem KN.room {w wr : World} {k : Int} {v : Value} {zs : List Int} (h : KN w wr k v zs) (o : Obj) : w.heap.size + 2 ≤ (wr.alloc o).heap.size := by
  have := heap_lt h.1
  simp
  omega
theorem KN.app {w wr w' : World} {k : Int} {v v' : Value} {zs zs' : List Int} (h : KN w wr k v zs) (ho : OwnI (w.heap.size + 2) w' v' zs') (hg : wr.grownBy w' v.ownBlock) :
    (w'.cell? ⟨w.heap.size + 1, 1, none⟩ = some v ∧ w'.frozen? ⟨w.heap.size + 1, 1, none⟩ = false) ∧ KN w (w'.setCell ⟨w.heap.size + 1, 1, none⟩ v') k v' zs' := by
  have h2 : w'.heap[w.heap.size + 1]? = some (boxR k v) := (hg.block _ (heap_lt h.1) (fun e => by have := (World.ownsRow.lt h.2.1 _ e.symm).1; omega)).trans h.1
  have hs := storedR h2 v'
  refine ⟨⟨(cellsR h2).2.1.2, (cellsR h2).2.2.2⟩, hs.2.2.2.2.1, World.ownsRow.kept ho (row := some (w.heap.size + 1)) (stored_grown hs) (.inr fun e => by have := (World.ownsRow.lt ho _ e).1; omega), ?_⟩
  exact hs.below (Below.grown h.2.2 hg h.2.2.size (fun k hk => by have := (World.ownsRow.lt h.2.1 k hk).1; omega)) (by omega)
theorem txs_of {w : World} {B : Nat} {v : Value} {zs : List Txc} {ts : List Txn} (hlen : ts.length ≤ 100000) (h3 : OwnTxc B w v zs) (h4 : OT B w zs ts) : Txs w v ts := by
  obtain ⟨e1, hk⟩ := h4
  obtain ⟨p, c, hv, hc, hp⟩ := ownTxc_slice h3
  have hL := h3.list (by omega)
  rw [e1] at hv hc
  refine ⟨⟨p, c, hv, hc, hp, by omega⟩, fun k hkt => ?_⟩
  rcases hL with ⟨_, h0⟩ | ⟨g, o, c', hv', _, hg, _, hcell⟩
  · rw [h0] at e1
    simp at e1
    omega
  · rw [e1] at hv' hcell
    obtain ⟨a0, a1, a2⟩ := hcell k hkt
    obtain ⟨i1, i2, i3⟩ := hk k hkt
    rw [i1] at a0
    rw [i2] at a1
    obtain ⟨ps, cs, hs, hcs⟩ := ownOpr_slice i3
    have hn : (ts.getD k Txn.zero).ops.length ≤ 9223372036854775807 := by
      rcases i3.2 with ⟨_, h0⟩ | ⟨_, _, _, _, _, _, _, hm, _⟩
      · omega
      · simp only [maxLen] at hm; omega
    exact ⟨g, o, c', hv', hg, a0, a1, _, a2, ⟨⟨ps, cs, hs, hcs⟩, (i3.list hn).mono (Nat.zero_le _)⟩⟩
theorem ords_of {w : World} {B : Nat} {v : Value} {zs : List Orc} {ts : List Ordr} (hlen : ts.length ≤ 100000) (h3 : OwnOrc B w v zs) (h4 : OO B w zs ts) : Ords w v ts := by
  obtain ⟨e1, hk⟩ := h4
  obtain ⟨p, c, hv, hc, hp⟩ := ownOrc_slice h3
  have hL := h3.list (by omega)
  rw [e1] at hv hc
  refine ⟨⟨p, c, hv, hc, hp, by omega⟩, fun k hkt => ?_⟩
  rcases hL with ⟨_, h0⟩ | ⟨g, o, c', hv', _, hg, _, hcell⟩
  · rw [h0] at e1
    simp at e1
    omega
  · rw [e1] at hv' hcell
    obtain ⟨a0, a1⟩ := hcell k hkt
    obtain ⟨i1, i3⟩ := hk k hkt
    rw [i1] at a0
    obtain ⟨ps, cs, hs, hcs⟩ := ownI_slice i3
    have hn : (ts.getD k Ordr.zero).txs.length ≤ 9223372036854775807 := by
      rcases i3.2 with ⟨_, h0⟩ | ⟨_, _, _, _, _, _, _, hm, _⟩
      · omega
      · simp only [maxLen] at hm; omega
    exact ⟨g, o, c', hv', hg, a0, _, a1, ⟨⟨ps, cs, hs, hcs⟩, i3.ints hn⟩⟩
def ShP (a b : Int) (h : Hist) (w : World) (e : Ending) (w' : World) : Prop := ∃ v u, e = .returned (.agg #[v, u]) ∧ HistV w' v u (shH a b h) ∧ Aft w w'
theorem DO.back {w w1 w' : World} {a b : Int} {v u : Value} {zs : List Txc} {ys : List Orc} {h : Hist} (hd : DO w w1 v u zs (shH a b h).txs ys (shH a b h).ords) (hs : Stored w1 (w.heap.size + 1) (boxHi v u) w') (hl : h.txs.length ≤ 100000 ∧ h.ords.length ≤ 100000) : w'.heap[w.heap.size + 1]? = some (boxHi v u) ∧ ShP a b h w (.returned (.agg #[v, u])) w' := by
  refine ⟨hs.2.2.2.2.1, v, u, rfl, ⟨?_, ?_⟩, hs.below hd.1.2.2.2.2 (by omega)⟩
  · have h3 : OwnTxc (w.heap.size + 3) w' v zs := World.ownsRow.kept hd.1.2.2.1 (row := some (w.heap.size + 1)) (stored_grown hs) (.inr fun e => by have := (World.ownsRow.lt hd.1.2.2.1 _ e).1; omega)
    have h4 : OT (w.heap.size + 3) w' zs (shH a b h).txs := hd.1.2.2.2.1.kept (row := some (w.heap.size + 1)) (stored_grown hs) (fun s l hsl => ownOpr_base hsl (by omega))
    exact txs_of (by show (h.txs.map _).length ≤ _; rw [List.length_map]; exact hl.1) h3 h4
  · have h3 : OwnOrc (w.heap.size + 3) w' u ys := World.ownsRow.kept hd.2.1 (row := some (w.heap.size + 1)) (stored_grown hs) (.inr fun e => by have := (World.ownsRow.lt hd.2.1 _ e).1; omega)
    have h4 : OO (w.heap.size + 3) w' ys (shH a b h).ords := hd.2.2.kept (row := some (w.heap.size + 1)) (stored_grown hs) (fun s l hsl => ownI_base hsl (by omega))
    exact ords_of (by show (h.ords.map _).length ≤ _; rw [List.length_map]; exact hl.2) h3 h4
end Go.Proofs.Ytmgkpabagpgilaa.Dg
namespace Go.Proofs.Ytmgkpabagpgilaa.Dg
open Go.ChangeShapes Go.WideShapes Go.ChangeAt Go.RowKit Base F Tx Hi Off
noncomputable def lowB (m : Int) (h : Hist) : Bool := @decide (lowH m h) (Classical.propDecidable _)
theorem lowB_iff {m : Int} {h : Hist} : lowB m h = true ↔ lowH m h := by unfold lowB; exact @decide_eq_true_iff _ (Classical.propDecidable _)
def lowT (m : Int) (t : Txn) : Prop := (1 ≤ t.id ∧ t.id ≤ m) ∧ ∀ o ∈ t.ops, 1 ≤ o.k ∧ o.k ≤ m
theorem all_getD {α : Type} {z : α} {l : List α} {P : α → Prop} (h : ∀ j, j < l.length → P (l.getD j z)) : ∀ x ∈ l, P x := fun x hx => by
  obtain ⟨j, hj, e⟩ := List.mem_iff_getElem.1 hx
  have := h j hj
  rwa [List.getD_eq_getElem?_getD, List.getElem?_eq_getElem hj, Option.getD_some, e] at this
set_option maxRecDepth 100000 in
set_option maxHeartbeats 16000000 in
theorem low_any {v u : Value} {h : Hist} {m : Int} (w : World) (hh : HistV w v u h) : Calls Try.prog 6 #[.agg #[v, u], .int .i64 m] w (BoolNew (lowB m h) w) := by
  obtain ⟨p, c, hv, _⟩ := hh.1.form
  obtain ⟨q, d, hu, _⟩ := hh.2.form
  subst hv hu
  have HT : Hid (Txs w (.slice p h.txs.length c) h.txs) := Lib.hid hh.1
  have HY : Hid (∀ W, (∀ t ∈ h.txs, lowT m t) → Aft w W → BoolNew (lowB m h) w (.returned (.bool true)) W) := Lib.hid fun W h1 h2 => ⟨by rw [lowB_iff.2 h1], h2⟩
  have HN : Hid (∀ W t, t ∈ h.txs → ¬ lowT m t → Aft w W → BoolNew (lowB m h) w (.returned (.bool false)) W) := Lib.hid fun W t ht h1 h2 => by
    refine ⟨?_, h2⟩
    cases e : lowB m h with
    | false => rfl
    | true => exact absurd (lowB_iff.1 e t ht) h1
  generalize BoolNew (lowB m h) w = Post at HY HN ⊢
  obtain ⟨on, hon⟩ : ∃ n, n = h.ords.length := ⟨_, rfl⟩
  rw [← hon]
  obtain ⟨xs, hxs⟩ : ∃ l, l = h.txs := ⟨_, rfl⟩
  have hl := hh.1.1
  rw [← hxs] at HT HY HN hl ⊢
  obtain ⟨_, _, _, _, _, hl64⟩ := hl
  clear hh hxs hon
  go_enter Try.func6, Try.ntmps6
  go_wp2
  have HS0 : Hid (Aft w (w.alloc (.cells #[.slice p xs.length c, .slice q on d] 25)) ∧ ∀ j, j < 0 → lowT m (xs.getD j Txn.zero)) := Lib.hid ⟨Aft.one _, fun j hj => by omega⟩
  go_loopw [12] (fun s12 wr => ∃ k : Nat, s12 = .int .i64 (k : Int) ∧ k ≤ xs.length ∧ Hid (Aft w wr ∧ ∀ j, j < k → lowT m (xs.getD j Txn.zero))) (fun s12 _ => xs.length - (intOf s12).toNat)
  case atStart => exact ⟨0, rfl, Nat.zero_le _, HS0⟩
  case round =>
    clear HS0
    obtain ⟨k, rfl, hk, HS⟩ := hrel
    obtain ⟨wA, hwA⟩ : ∃ wA, wA = wr := ⟨_, rfl⟩
    subst hwA
    by_cases hlt : k < xs.length
    · obtain ⟨g, o, sp, sc, rfl, hg, c0, c1, c2, hs⟩ := HT.out.at_ hlt
      have c0 := HS.out.1.cell hg c0
      have c1 := HS.out.1.cell hg c1
      have c2 := HS.out.1.cell hg c2
      have hs := hs.below HS.out.1
      have hg := Nat.lt_of_lt_of_le hg HS.out.1.size
      have hkI : (k : Int) < (xs.length : Int) := by omega
      have HM : Hid (xs.getD k Txn.zero ∈ xs) := Lib.hid (getD_mem' Txn.zero hlt)
      have HNX : Hid (lowT m (xs.getD k Txn.zero) → ∀ j, j < k + 1 → lowT m (xs.getD j Txn.zero)) := Lib.hid fun he j hj => if h : j = k then h ▸ he else HS.out.2 j (by omega)
      have HA := Lib.hid HS.out.1
      generalize xs.getD k Txn.zero = t at c0 c1 c2 hs HM HNX
      obtain ⟨ti, td, l⟩ := t
      dsimp only at c0 c1 c2 hs
      have HC := Lib.hid hs.2
      obtain ⟨ln, hln⟩ : ∃ n, n = l.length := ⟨_, rfl⟩
      have HLN := Lib.hid hln
      have hl64b : ln ≤ 9223372036854775807 := by
        obtain ⟨_, _, _, hb, _⟩ := HC.out.open_
        omega
      rw [← hln] at c2 HC
      clear hs hln HS
      have HB : Hid (∀ o, Aft w (wA.alloc o)) := Lib.hid fun o => HA.out.lay o
      by_cases h1 : ti < 1
      · have HF : Hid (∀ o, Post (.returned (.bool false)) (wA.alloc o)) := Lib.hid fun o => HN.out _ _ HM.out (fun e => by have := e.1.1; dsimp only at this; omega) (HB.out o)
        clear HN HY HNX HM HC HT
        go_wp2_with fail
        first | (go_ret; exact HF.out _) | exact HF.out _
      by_cases h2 : m < ti
      · have HF : Hid (∀ o, Post (.returned (.bool false)) (wA.alloc o)) := Lib.hid fun o => HN.out _ _ HM.out (fun e => by have := e.1.2; dsimp only at this; omega) (HB.out o)
        clear HN HY HNX HM HC HT
        go_wp2_with fail
        first | (go_ret; exact HF.out _) | exact HF.out _
      have HID : Hid (1 ≤ ti ∧ ti ≤ m) := Lib.hid ⟨by omega, by omega⟩
      have HI0 : Hid (∀ o, Aft wA (wA.alloc o) ∧ ∀ j, j < 0 → (1 ≤ (l.getD j Opr.zero).k ∧ (l.getD j Opr.zero).k ≤ m)) := Lib.hid fun o => ⟨Aft.one _, fun j hj => by omega⟩
      go_wp2
      go_loopw [28] (fun s28 wi => ∃ j : Nat, s28 = .int .i64 (j : Int) ∧ j ≤ ln ∧ Hid (Aft wA wi ∧ ∀ i, i < j → (1 ≤ (l.getD i Opr.zero).k ∧ (l.getD i Opr.zero).k ≤ m))) (fun s28 _ => ln - (intOf s28).toNat)
      case atStart => exact ⟨0, rfl, Nat.zero_le _, Lib.hid (HI0.out _)⟩
      case round =>
        clear HI0
        obtain ⟨j, rfl, hj, HI⟩ := hrel
        obtain ⟨wi, hwi⟩ : ∃ wi, wi = wr := ⟨_, rfl⟩
        subst hwi
        by_cases hjt : j < ln
        · obtain ⟨p2, cc2, he2, _, hat⟩ := HC.out.open_
          injection he2 with e1 e2 e3
          subst e1 e3
          obtain ⟨g', o', rfl, _, hg', d0, d1, d2, d3⟩ := hat j (by have := HLN.out; omega)
          have d0 := HI.out.1.cell hg' d0
          have d1 := HI.out.1.cell hg' d1
          have d2 := HI.out.1.cell hg' d2
          have d3 := HI.out.1.cell hg' d3
          have hg' := Nat.lt_of_lt_of_le hg' HI.out.1.size
          have hjI : (j : Int) < (ln : Int) := by omega
          have HMO : Hid (l.getD j Opr.zero ∈ l) := Lib.hid (getD_mem' Opr.zero (by have := HLN.out; omega))
          have HNO : Hid (1 ≤ (l.getD j Opr.zero).k ∧ (l.getD j Opr.zero).k ≤ m → ∀ i, i < j + 1 → (1 ≤ (l.getD i Opr.zero).k ∧ (l.getD i Opr.zero).k ≤ m)) := Lib.hid fun he i hi => if h : i = j then h ▸ he else HI.out.2 i (by omega)
          have HAI : Hid (Aft wA wi) := Lib.hid HI.out.1
          have HJL : Hid (j < ln) := Lib.hid hjt
          clear hat e2 HI
          generalize l.getD j Opr.zero = x at d0 d1 d2 d3 HMO HNO
          obtain ⟨xr, xk, xt, xn⟩ := x
          dsimp only at d0 d1 d2 d3 HNO
          by_cases q1 : xk < 1
          · have HF : Hid (∀ o, Post (.returned (.bool false)) (wi.alloc o)) := Lib.hid fun o => HN.out _ _ HM.out (fun e => by have := (e.2 _ HMO.out).1; dsimp only at this; omega) (HA.out.trans (HAI.out.lay o))
            clear HN HY HNX HM HC HT HMO HNO
            go_wp2_with fail
            first | (go_ret; exact HF.out _) | exact HF.out _
          by_cases q2 : m < xk
          · have HF : Hid (∀ o, Post (.returned (.bool false)) (wi.alloc o)) := Lib.hid fun o => HN.out _ _ HM.out (fun e => by have := (e.2 _ HMO.out).2; dsimp only at this; omega) (HA.out.trans (HAI.out.lay o))
            clear HN HY HNX HM HC HT HMO HNO
            go_wp2_with fail
            first | (go_ret; exact HF.out _) | exact HF.out _
          have HR : Hid (∀ o, Aft wA (wi.alloc o) ∧ ∀ i, i < j + 1 → (1 ≤ (l.getD i Opr.zero).k ∧ (l.getD i Opr.zero).k ≤ m)) := Lib.hid fun o => ⟨HAI.out.lay o, HNO.out ⟨by omega, by omega⟩⟩
          clear HNO HMO
          go_wp2_with fail
          have jl := HJL.out
          go_roundw
          case rel => exact ⟨j + 1, by go_num, by omega, Lib.hid (HR.out _)⟩
          case measure => simp [intOf]; omega
        · have HR : Hid (Aft w wi ∧ ∀ j, j < k + 1 → lowT m (xs.getD j Txn.zero)) := Lib.hid ⟨HA.out.trans HI.out.1, HNX.out ⟨HID.out, all_getD (z := Opr.zero) fun i hi => HI.out.2 i (by have := HLN.out; have hi : i < l.length := hi; omega)⟩⟩
          have HKL : Hid (k < xs.length) := Lib.hid hlt
          clear HI HNX
          go_wp2_with fail
          have kl := HKL.out
          go_roundw
          case rel => exact ⟨k + 1, by go_num, by omega, HR⟩
          case measure => simp [intOf]; omega
    · have HF : Hid (Post (.returned (.bool true)) wA) := Lib.hid (HY.out wA (all_getD (z := Txn.zero) fun j hj => HS.out.2 j (by omega)) HS.out.1)
      clear HS HY HN HT
      go_wp2_with fail
      first | (go_ret; exact HF.out) | exact HF.out
end Go.Proofs.Ytmgkpabagpgilaa.Dg
namespace Go.Proofs.Ytmgkpabagpgilaa.Dg
open Go.ChangeShapes Go.WideShapes Go.ChangeAt Go.RowKit Base F Tx Hi Off
end Go.Proofs.Ytmgkpabagpgilaa.Dg
namespace Go.Proofs.Ytmgkpabagpgilaa.Dg
open Go.ChangeShapes Go.WideShapes Go.ChangeAt Go.RowKit Base F Tx Hi
open Pk (OwnE)
def PlP (l : List Hvy) (w : World) (e : Ending) (w' : World) : Prop := ∃ v, e = .returned v ∧ OwnE w.heap.size w' v (l.map fun x => toE (edH x)) ∧ Aft w w'
end Go.Proofs.Ytmgkpabagpgilaa.Dg
