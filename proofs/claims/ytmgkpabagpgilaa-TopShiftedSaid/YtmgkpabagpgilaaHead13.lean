/-
  Contracts of small functions, several texts laid into one. Not a statement of the seat.
-/
import Derived.Test.YtmgkpabagpgilaaHead7
import Derived.Test.YtmgkpabagpgilaaHead8
import Derived.Test.YtmgkpabagpgilaaHead11
import Derived.Test.YtmgkpabagpgilaaOr3
import Derived.Test.YtmgkpabagpgilaaHead5
namespace Go.Proofs.Ytmgkpabagpgilaa.Hi
open Go.ChangeShapes Go.WideShapes Go.ChangeAt Go.RowKit Base F Tx
set_option maxRecDepth 100000 in
set_option maxHeartbeats 4000000 in
theorem eachRight_any {v : Value} {xs : List Txn} (w : World) (h : Txs w v xs) (hl : ∀ t ∈ xs, t.ops.length ≤ 100000) : Calls Try.prog 15 #[v] w (BoolNew (risesT 0 xs) w) := by
  obtain ⟨p, c, rfl, _, hlm⟩ := h.form
  have HT := Lib.hid h
  have HL := Lib.hid hl
  have HS0 : Hid (Aft w w ∧ risesT 0 xs = risesT 0 (xs.drop 0)) := Lib.hid ⟨Aft.refl w, by simp⟩
  generalize risesT 0 xs = r at HS0 ⊢
  clear h hl
  go_enter Try.func15, Try.ntmps15
  go_wp2_with fail
  go_loopw [3, 8] (fun s3 s8 wr => ∃ (k : Nat) (la : Int), s3 = .int .i64 la ∧ s8 = .int .i64 (k : Int) ∧ k ≤ xs.length ∧ Hid (Aft w wr ∧ r = risesT la (xs.drop k))) (fun _ s8 _ => xs.length - (intOf s8).toNat)
  case atStart => exact ⟨0, 0, rfl, rfl, Nat.zero_le _, HS0⟩
  case round =>
    clear HS0
    obtain ⟨k, la, rfl, rfl, hk, HS⟩ := hrel
    by_cases hlt : k < xs.length
    · obtain ⟨g, o, sp, sc, rfl, hg, c0, c1, c2, hs⟩ := HT.out.at_ hlt
      have c0 := HS.out.1.cell hg c0
      have c1 := HS.out.1.cell hg c1
      have c2 := HS.out.1.cell hg c2
      have hg := Nat.lt_of_lt_of_le hg HS.out.1.size
      have HR : Hid (r = risesT la (xs.getD k Txn.zero :: xs.drop (k + 1))) := Lib.hid (by rw [HS.out.2, drop_cons xs Txn.zero k hlt])
      have HLK := Lib.hid (HL.out _ (getD_mem hlt))
      have HOP := Lib.hid (hs.below HS.out.1).2
      have hkI : (k : Int) < (xs.length : Int) := by omega
      have HSA := Lib.hid HS.out.1
      generalize xs.getD k Txn.zero = t at c0 c1 c2 HR HLK HOP hs
      obtain ⟨ti, td, tl⟩ := t
      simp only at c0 c1 c2 HR HLK HOP hs
      clear hs HS HT HL
      by_cases hle : ti ≤ la
      · have HF : Hid (r = false) := Lib.hid (by rw [HR.out, risesT]; exact if_pos hle)
        clear HR HOP HLK
        generalize tl.length = tn at c2
        go_wp2_with fail
        go_ret
        exact ⟨ret_bool HF.out.symm, HSA.out.lay _⟩
      · have HC := Lib.hid (Tx.right_any ti td (wr.alloc (boxT ti td (.slice sp tl.length sc))) (HOP.out.below (Aft.one _)) HLK.out)
        have HR2 : Hid (r = if rightT ti tl = 0 then risesT ti (xs.drop (k + 1)) else false) := Lib.hid (by rw [HR.out, risesT]; exact if_neg hle)
        generalize rightT ti tl = y at HC HR2
        clear HR HOP HLK
        generalize tl.length = tn at c2 HC
        have hbx : ∀ W, Aft (wr.alloc (boxT ti td (.slice sp tn sc))) W → W.heap[wr.heap.size]? = some (boxT ti td (.slice sp tn sc)) := fun W hW => (hW.block _ (by simp)).trans (heap_alloc_at _ _ _ rfl)
        have HBX := Lib.hid hbx
        clear hbx
        go_wp2_with fail
        refine HC.out.mono ?_
        rintro e w2 ⟨rfl, ha⟩
        have HA2 := Lib.hid ((HSA.out.lay (boxT ti td (.slice sp tn sc))).trans ha)
        obtain ⟨hgx, ⟨d0, _, _⟩, _⟩ := cellsT (HBX.out _ ha)
        clear ha HBX HC
        by_cases hy : y = 0
        · subst hy
          have HR3 : Hid (Aft w w2 ∧ r = risesT ti (xs.drop (k + 1))) := Lib.hid ⟨HA2.out, by rw [HR2.out]; rfl⟩
          go_wp2_with fail
          go_roundw
          case rel => exact ⟨k + 1, ti, rfl, by go_num, hlt, HR3⟩
          case measure => simp [intOf]; omega
        · have hy2 : (y != 0) = true := by rw [bne_iff_ne]; exact hy
          have HF : Hid (r = false) := Lib.hid (by rw [HR2.out, if_neg hy])
          clear HR2 hy
          go_wp2_with fail
          go_ret
          exact ⟨ret_bool HF.out.symm, HA2.out⟩
    · have hke : k = xs.length := by omega
      subst hke
      have HF : Hid (r = true ∧ Aft w wr) := Lib.hid ⟨by rw [HS.out.2, List.drop_length]; rfl, HS.out.1⟩
      clear HS HT HL
      go_wp2_with fail
      go_ret
      exact ⟨ret_bool HF.out.1.symm, HF.out.2⟩
theorem idx_key : ∀ (xs : List Ordr) (key : Int) (k0 : Nat), (ordL xs key = [] ∧ (∀ o ∈ xs, o.key ≠ key) ∧ idxF (fun x : Ordr => x.key == key) xs k0 = -1) ∨ ∃ k, k < xs.length ∧ ordL xs key = (xs.getD k Ordr.zero).txs ∧ (xs.getD k Ordr.zero).key = key ∧ idxF (fun x : Ordr => x.key == key) xs k0 = ((k0 + k : Nat) : Int)
  | [], _, _ => .inl ⟨rfl, (fun _ h => by cases h), rfl⟩
  | t :: l, key, k0 => by
    by_cases h : t.key = key
    · exact .inr ⟨0, by simp, by simp [ordL, h], by simp [h], by simp [idxF, h]⟩
    · have hb : (t.key == key) = false := by rw [beq_eq_false_iff_ne]; exact h
      rcases idx_key l key (k0 + 1) with ⟨h1, h3, h2⟩ | ⟨k, h1, h2, h4, h3⟩
      · exact .inl ⟨by rw [ordL, if_neg h]; exact h1, (fun o ho => by rcases List.mem_cons.1 ho with rfl | ho; exact h; exact h3 o ho), by rw [idxF, hb]; exact h2⟩
      · exact .inr ⟨k + 1, by simpa using h1, by rw [ordL, if_neg h, h2]; rfl, h4, by rw [idxF, hb]; rw [if_neg (by decide), h3]; omega⟩
/-- What a clone of ids is. -/
def IdsNew (l : List Int) (w : World) (e : Ending) (w' : World) : Prop := ∃ v, e = .returned v ∧ Lst.OwnI w.heap.size w' v l ∧ Aft w w'
end Go.Proofs.Ytmgkpabagpgilaa.Hi
namespace Go.Proofs.Ytmgkpabagpgilaa.Hi
open F Tx
theorem wrN_pos {l : List Opr} {x : Int} : 0 < wrN l x ↔ x ∈ (bareL l).map Opr.k := by
  unfold wrN bareL
  rw [List.countP_pos_iff, List.mem_map]
  constructor
  · rintro ⟨o, ho, h⟩
    simp only [Bool.and_eq_true, decide_eq_true_eq] at h
    exact ⟨o, List.mem_filter.2 ⟨ho, h.1⟩, h.2⟩
  · rintro ⟨o, ho, rfl⟩
    obtain ⟨h1, h2⟩ := List.mem_filter.1 ho
    exact ⟨o, h1, by simp at h2; simp [h2]⟩
theorem mem_allK {l : List Txn} {x : Int} : x ∈ allK l ↔ ∃ t ∈ l, t.dn = true ∧ 0 < wrN t.ops x := by
  unfold allK
  rw [List.mem_flatMap]
  constructor
  · rintro ⟨t, ht, hx⟩
    cases hd : t.dn with
    | false => rw [hd] at hx; simp at hx
    | true => rw [hd, if_pos rfl] at hx; exact ⟨t, ht, hd, wrN_pos.2 hx⟩
  · rintro ⟨t, ht, hd, hx⟩
    exact ⟨t, ht, by rw [hd, if_pos rfl]; exact wrN_pos.1 hx⟩
theorem wrs_ne {l : List Txn} {x : Int} : wrsL l x ≠ [] ↔ x ∈ allK l := by
  rw [mem_allK]
  unfold wrsL
  constructor
  · intro h
    obtain ⟨y, hy⟩ := List.exists_mem_of_ne_nil _ h
    obtain ⟨t, ht, _⟩ := List.mem_map.1 hy
    obtain ⟨h1, h2⟩ := List.mem_filter.1 ht
    simp at h2
    exact ⟨t, h1, h2.1, h2.2⟩
  · rintro ⟨t, ht, hd, hx⟩ e
    have : t.id ∈ (l.filter (fun t => t.dn && decide (0 < wrN t.ops x))).map Txn.id := List.mem_map.2 ⟨t, List.mem_filter.2 ⟨ht, by simp [hd, hx]⟩, rfl⟩
    rw [e] at this
    cases this
theorem rt_ops : ∀ (id : Int) (l pre : List Opr), rtGo id pre l = 0 → ∀ o ∈ l, Op.rightO o = true
  | _, [], _, _, _, h => by cases h
  | id, o :: l, pre, h, x, hx => by
    rw [rtGo] at h
    split at h
    · exact absurd h (by decide)
    · rename_i h1
      split at h
      · exact absurd h (by decide)
      · rcases List.mem_cons.1 hx with rfl | hx
        · simpa using h1
        · exact rt_ops id l _ h x hx
theorem right_ops {id : Int} {l : List Opr} (h : rightT id l = 0) : (1 ≤ id ∧ id ≤ 1048575) ∧ l.length ≤ 4095 ∧ ∀ o ∈ l, Op.rightO o = true := by
  unfold rightT at h
  split at h
  · exact absurd h (by decide)
  · split at h
    · exact absurd h (by decide)
    · exact ⟨by omega, by omega, rt_ops id l [] h⟩
theorem needs_mem {id : Int} : ∀ (l : List Opr) (acc : List Ver) (v : Ver), v ∈ l.foldl (needStep id) acc → v ∈ acc ∨ ∃ o ∈ l, o.rd = true ∧ o.t ≠ 0 ∧ v = ⟨o.t, o.k, o.n⟩
  | [], _, _, h => .inl h
  | o :: l, acc, v, h => by
    rcases needs_mem l (needStep id acc o) v h with h1 | ⟨o', h1, h2⟩
    · unfold needStep at h1
      split at h1
      · rename_i hn
        rcases List.mem_append.1 h1 with h1 | h1
        · exact .inl h1
        · simp only [List.mem_singleton] at h1
          unfold need at hn
          simp only [Bool.and_eq_true, decide_eq_true_eq] at hn
          exact .inr ⟨o, List.mem_cons_self, hn.1.1.1, hn.1.1.2, by rw [h1, verO, if_pos hn.1.1.1]⟩
      · exact .inl h1
    · exact .inr ⟨o', List.mem_cons_of_mem _ h1, h2⟩
/-- What a right one needs is no first version. -/
theorem needs_bd {id : Int} {l : List Opr} (h : rightT id l = 0) {v : Ver} (hv : v ∈ needsL id l) : v.t ≠ 0 ∧ 1 ≤ v.n := by
  rcases needs_mem l [] v hv with h1 | ⟨o, h1, h2, h3, rfl⟩
  · cases h1
  · exact ⟨h3, ((right_bd ((right_ops h).2.2 o h1)).2.1 h2 h3).1⟩
theorem rises_iff : ∀ (xs : List Txn) (la : Int), risesT la xs = true ↔ (∀ t ∈ xs, rightT t.id t.ops = 0) ∧ (∀ t ∈ xs, la < t.id) ∧ xs.Pairwise (fun a b => a.id < b.id)
  | [], la => by simp [risesT]
  | t :: l, la => by
    rw [risesT]
    by_cases h1 : t.id ≤ la
    · rw [if_pos h1]
      constructor
      · intro h; cases h
      · rintro ⟨_, h2, _⟩
        have := h2 t List.mem_cons_self
        omega
    · rw [if_neg h1]
      by_cases h2 : rightT t.id t.ops = 0
      · rw [if_pos h2, rises_iff l t.id]
        constructor
        · rintro ⟨h3, h4, h5⟩
          refine ⟨fun x hx => ?_, fun x hx => ?_, List.pairwise_cons.2 ⟨h4, h5⟩⟩
          · rcases List.mem_cons.1 hx with rfl | hx
            · exact h2
            · exact h3 x hx
          · rcases List.mem_cons.1 hx with rfl | hx
            · omega
            · have := h4 x hx; omega
        · rintro ⟨h3, h4, h5⟩
          obtain ⟨h6, h7⟩ := List.pairwise_cons.1 h5
          exact ⟨fun x hx => h3 x (List.mem_cons_of_mem _ hx), h6, h7⟩
      · rw [if_neg h2]
        constructor
        · intro h; cases h
        · rintro ⟨h3, _⟩
          exact absurd (h3 t List.mem_cons_self) h2
theorem pw_step {α : Type} (z : α) (f : α → Int) : ∀ (xs : List α), (∀ k, k + 1 < xs.length → f (xs.getD k z) < f (xs.getD (k + 1) z)) → xs.Pairwise (fun a b => f a < f b)
  | [], _ => List.Pairwise.nil
  | [x], _ => by simp
  | x :: y :: l, h => by
    have ih := pw_step z f (y :: l) fun k hk => by
      have := h (k + 1) (by simpa using hk)
      simpa using this
    have h0 : f x < f y := by
      have := h 0 (by simp)
      simpa using this
    refine List.pairwise_cons.2 ⟨fun b hb => ?_, ih⟩
    rcases List.mem_cons.1 hb with rfl | hb
    · exact h0
    · have := (List.pairwise_cons.1 ih).1 b hb
      omega
theorem pw_at {α : Type} (z : α) (f : α → Int) {xs : List α} (h : xs.Pairwise (fun a b => f a < f b)) {j k : Nat} (hj : j < k) (hk : k < xs.length) : f (xs.getD j z) < f (xs.getD k z) := by
  rw [List.pairwise_iff_getElem] at h
  have := h j k (by omega) hk hj
  rw [List.getD_eq_getElem?_getD, List.getD_eq_getElem?_getD, List.getElem?_eq_getElem hk, List.getElem?_eq_getElem (show j < xs.length by omega)]
  exact this
theorem cnt_none : ∀ (xs : List Txn) (t k : Int), findT xs t = none → cntW xs t k = 0
  | [], _, _, _ => rfl
  | x :: l, t, k, h => by
    unfold findT at h
    split at h
    · cases h
    · rename_i hn
      rw [cntW, if_neg hn, cnt_none l t k h]
theorem find_no : ∀ {xs : List Txn} {t : Int}, (∀ x ∈ xs, x.id ≠ t) → findT xs t = none
  | [], _, _ => rfl
  | x :: l, t, h => by
    rw [findT, if_neg (h x List.mem_cons_self)]
    exact find_no fun y hy => h y (List.mem_cons_of_mem _ hy)
theorem cnt_some : ∀ (xs : List Txn) (t k : Int) (x : Txn), xs.Pairwise (fun a b => a.id < b.id) → findT xs t = some x → cntW xs t k = wrN x.ops k
  | [], _, _, _, _, h => by cases h
  | y :: l, t, k, x, hp, h => by
    obtain ⟨h1, h2⟩ := List.pairwise_cons.1 hp
    unfold findT at h
    split at h
    · rename_i he
      injection h with h
      rw [cntW, if_pos he, cnt_none l t k (find_no fun z hz => by have := h1 z hz; omega), h, Nat.add_zero]
    · rename_i hn
      rw [cntW, if_neg hn, cnt_some l t k x h2 h, Nat.zero_add]
def needsB (h : Hist) (t : Txn) : Bool := (needsL t.id t.ops).all fun v => hasB h v.t v.k v.n
theorem lack_needs {h : Hist} (hp : h.txs.Pairwise (fun a b => a.id < b.id)) {t : Txn} (hr : rightT t.id t.ops = 0) : lackB h.txs t = !needsB h t := by
  have key : ∀ v ∈ needsL t.id t.ops, decide ((cntW h.txs v.t v.k : Int) < v.n) = !hasB h v.t v.k v.n := fun v hv => by
    obtain ⟨h1, h2⟩ := needs_bd hr hv
    have h0 : ¬ (v.t = 0 ∧ v.n = 0) := fun e => h1 e.1
    cases hf : findT h.txs v.t with
    | none =>
      rw [hasB_none h0 hf, cnt_none _ _ _ hf]
      exact decide_eq_true (by omega)
    | some x =>
      rw [hasB_some h0 hf, cnt_some _ _ v.k x hp hf]
      by_cases h3 : v.n ≤ ((wrN x.ops v.k : Nat) : Int)
      · rw [decide_eq_false (by omega), decide_eq_true ⟨h2, h3⟩]; rfl
      · rw [decide_eq_true (by omega), decide_eq_false (fun e => h3 e.2)]; rfl
  unfold lackB needsB
  generalize needsL t.id t.ops = l at key
  induction l with
  | nil => rfl
  | cons v l ih =>
    rw [List.any_cons, List.all_cons, key v List.mem_cons_self, ih fun x hx => key x (List.mem_cons_of_mem _ hx), Bool.not_and]
theorem ords_iff (f : Int → List Int) : ∀ (os : List Ordr) (la : Int), ordsB f la os = true ↔ (∀ o ∈ os, f o.key ≠ [] ∧ Om.permB o.txs (f o.key) = true) ∧ (∀ o ∈ os, la < o.key) ∧ os.Pairwise (fun a b => a.key < b.key)
  | [], la => by simp [ordsB]
  | o :: l, la => by
    rw [ordsB]
    by_cases h1 : o.key ≤ la
    · rw [if_pos h1]
      constructor
      · intro h; cases h
      · rintro ⟨_, h2, _⟩
        have := h2 o List.mem_cons_self
        omega
    · rw [if_neg h1]
      by_cases h2 : f o.key = []
      · rw [if_pos h2]
        constructor
        · intro h; cases h
        · rintro ⟨h3, _⟩
          exact absurd h2 (h3 o List.mem_cons_self).1
      · rw [if_neg h2]
        by_cases h3 : Om.permB o.txs (f o.key) = true
        · rw [if_pos h3, ords_iff f l o.key]
          constructor
          · rintro ⟨h4, h5, h6⟩
            refine ⟨fun x hx => ?_, fun x hx => ?_, List.pairwise_cons.2 ⟨h5, h6⟩⟩
            · rcases List.mem_cons.1 hx with rfl | hx
              · exact ⟨h2, h3⟩
              · exact h4 x hx
            · rcases List.mem_cons.1 hx with rfl | hx
              · omega
              · have := h5 x hx; omega
          · rintro ⟨h4, h5, h6⟩
            obtain ⟨h7, h8⟩ := List.pairwise_cons.1 h6
            exact ⟨fun x hx => h4 x (List.mem_cons_of_mem _ hx), h7, h8⟩
        · rw [if_neg h3]
          constructor
          · intro h; cases h
          · rintro ⟨h4, _⟩
            exact absurd (h4 o List.mem_cons_self).2 h3
theorem rises_le : ∀ (L K : List Int), Rises L → Rises K → (∀ x ∈ L, x ∈ K) → L.length ≤ K.length
  | [], _, _, _, _ => Nat.zero_le _
  | x :: L, [], _, _, h => by have := h x List.mem_cons_self; cases this
  | x :: L, y :: K, hl, hk, h => by
    obtain ⟨h1, h2⟩ := List.pairwise_cons.1 hl
    obtain ⟨h3, h4⟩ := List.pairwise_cons.1 hk
    have hxy : y ≤ x := by
      rcases List.mem_cons.1 (h x List.mem_cons_self) with e | e
      · omega
      · have := h3 x e; omega
    have := rises_le L K h2 h4 fun z hz => by
      have h5 := h1 z hz
      rcases List.mem_cons.1 (h z (List.mem_cons_of_mem _ hz)) with e | e
      · omega
      · exact e
    simp only [List.length_cons]
    omega
theorem rises_sub : ∀ (L K : List Int), Rises L → Rises K → (∀ x ∈ L, x ∈ K) → K.length ≤ L.length → L = K
  | [], K, _, _, _, h => by
    have : K = [] := List.eq_nil_of_length_eq_zero (by simpa using h)
    rw [this]
  | x :: L, [], _, _, h, _ => by have := h x List.mem_cons_self; cases this
  | x :: L, y :: K, hl, hk, h, hlen => by
    obtain ⟨h1, h2⟩ := List.pairwise_cons.1 hl
    obtain ⟨h3, h4⟩ := List.pairwise_cons.1 hk
    rcases List.mem_cons.1 (h x List.mem_cons_self) with e | e
    · subst e
      rw [rises_sub L K h2 h4 (fun z hz => by
        have h5 := h1 z hz
        rcases List.mem_cons.1 (h z (List.mem_cons_of_mem _ hz)) with e | e
        · omega
        · exact e) (by simpa using hlen)]
    · have hyx := h3 x e
      have := rises_le (x :: L) K hl h4 fun z hz => by
        rcases List.mem_cons.1 (h z hz) with e2 | e2
        · rcases List.mem_cons.1 hz with e3 | e3
          · omega
          · have := h1 z e3; omega
        · exact e2
      simp only [List.length_cons] at this hlen
      omega
theorem pw_map {os : List Ordr} : os.Pairwise (fun a b => a.key < b.key) ↔ Rises (os.map Ordr.key) := by show _ ↔ List.Pairwise (· < ·) (os.map Ordr.key); rw [List.pairwise_map]
/-- What it is that a history is right. -/
theorem right_iff {h : Hist} : rightH h = true ↔ h.txs.length ≤ 4096 ∧ (∀ t ∈ h.txs, rightT t.id t.ops = 0) ∧ h.txs.Pairwise (fun a b => a.id < b.id) ∧ (∀ t ∈ h.txs, needsB h t = true) ∧ h.ords.map Ordr.key = KW h.txs ∧ ∀ o ∈ h.ords, Om.permB o.txs (wrsL h.txs o.key) = true := by
  have hKW : ∀ x, x ∈ KW h.txs ↔ x ∈ allK h.txs := fun x => mem_keysL
  unfold rightH
  by_cases h1 : 4096 < h.txs.length
  · rw [if_pos h1]
    constructor
    · intro h; cases h
    · rintro ⟨h2, _⟩; omega
  rw [if_neg h1]
  by_cases h2 : risesT 0 h.txs = true
  · rw [if_pos h2]
    obtain ⟨r1, r2, r3⟩ := (rises_iff _ _).1 h2
    have hlk : h.txs.any (lackB h.txs) = true ↔ ¬ ∀ t ∈ h.txs, needsB h t = true := by
      rw [List.any_eq_true]
      constructor
      · rintro ⟨t, ht, h3⟩ h4
        rw [lack_needs r3 (r1 t ht), h4 t ht] at h3
        cases h3
      · intro h3
        refine Classical.byContradiction fun h4 => h3 fun t ht => ?_
        cases hn : needsB h t with
        | true => rfl
        | false => exact absurd ⟨t, ht, by rw [lack_needs r3 (r1 t ht), hn]; rfl⟩ h4
    by_cases h3 : h.txs.any (lackB h.txs) = true
    · rw [if_pos h3]
      constructor
      · intro h; cases h
      · rintro ⟨_, _, _, h4, _⟩
        exact absurd h4 (hlk.1 h3)
    · rw [if_neg h3]
      have hnd : ∀ t ∈ h.txs, needsB h t = true := Classical.byContradiction fun h4 => h3 (hlk.2 h4)
      by_cases h4 : h.ords.length = (KW h.txs).length
      · rw [if_pos h4, ords_iff]
        constructor
        · rintro ⟨h5, h6, h7⟩
          refine ⟨by omega, r1, r3, hnd, rises_sub _ _ (pw_map.1 h7) (keysL_rises _) (fun x hx => ?_) (by rw [List.length_map]; omega), fun o ho => (h5 o ho).2⟩
          obtain ⟨o, ho, rfl⟩ := List.mem_map.1 hx
          exact (hKW _).2 (wrs_ne.1 (h5 o ho).1)
        · rintro ⟨_, _, _, _, h5, h6⟩
          have hmem : ∀ o ∈ h.ords, o.key ∈ allK h.txs := fun o ho => (hKW _).1 (h5 ▸ List.mem_map.2 ⟨o, ho, rfl⟩)
          refine ⟨fun o ho => ⟨wrs_ne.2 (hmem o ho), h6 o ho⟩, fun o ho => ?_, pw_map.2 (h5 ▸ keysL_rises _)⟩
          obtain ⟨t, ht, _, hw⟩ := mem_allK.1 (hmem o ho)
          obtain ⟨x, hx, he⟩ := List.mem_map.1 (wrN_pos.1 hw)
          have := (right_bd ((right_ops (r1 t ht)).2.2 x (List.mem_filter.1 hx).1)).1
          omega
      · rw [if_neg h4]
        constructor
        · intro h; cases h
        · rintro ⟨_, _, _, _, h5, _⟩
          exact absurd (by rw [← h5, List.length_map]) h4
  · rw [if_neg h2]
    constructor
    · intro h; cases h
    · rintro ⟨_, h3, h4, _⟩
      exact absurd ((rises_iff _ _).2 ⟨h3, fun t ht => by have := (right_ops (h3 t ht)).1; omega, h4⟩) h2
theorem getD_mem' {α : Type} (z : α) {l : List α} {k : Nat} (h : k < l.length) : l.getD k z ∈ l := by
  rw [List.getD_eq_getElem?_getD, List.getElem?_eq_getElem h]
  exact List.getElem_mem h
theorem right_not {h : Hist} (hn : ¬ rightH h = true) : rightH h = false := by simpa using hn
theorem right_no1 {h : Hist} {k : Nat} (hk : k + 1 < h.txs.length) (hi : (h.txs.getD (k + 1) Txn.zero).id ≤ (h.txs.getD k Txn.zero).id) : rightH h = false := right_not fun e => by
  have := pw_at Txn.zero Txn.id (right_iff.1 e).2.2.1 (show k < k + 1 by omega) hk
  omega
theorem right_no2 {h : Hist} {k : Nat} (hk : k < h.txs.length) (hi : rightT (h.txs.getD k Txn.zero).id (h.txs.getD k Txn.zero).ops ≠ 0) : rightH h = false := right_not fun e => hi ((right_iff.1 e).2.1 _ (getD_mem' _ hk))
theorem right_no3 {h : Hist} {k : Nat} (hk : k < h.txs.length) (hi : needsB h (h.txs.getD k Txn.zero) = false) : rightH h = false := right_not fun e => by
  have := (right_iff.1 e).2.2.2.1 _ (getD_mem' Txn.zero hk)
  rw [hi] at this
  cases this
theorem right_no4 {h : Hist} (hi : h.ords.length ≠ (KW h.txs).length) : rightH h = false := right_not fun e => hi (by rw [← (right_iff.1 e).2.2.2.2.1, List.length_map])
theorem right_no5 {h : Hist} {k : Nat} (hk : k < h.ords.length) (hi : (h.ords.getD k Ordr.zero).key ≠ (KW h.txs).getD k 0) : rightH h = false := right_not fun e => hi (by
  rw [← (right_iff.1 e).2.2.2.2.1, List.getD_eq_getElem?_getD, List.getD_eq_getElem?_getD, List.getElem?_map, List.getElem?_eq_getElem hk]
  rfl)
theorem right_no6 {h : Hist} {k : Nat} (hk : k < h.ords.length) (hi : Om.permB (h.ords.getD k Ordr.zero).txs (wrsL h.txs (h.ords.getD k Ordr.zero).key) = false) : rightH h = false := right_not fun e => by
  have := (right_iff.1 e).2.2.2.2.2 _ (getD_mem' Ordr.zero hk)
  rw [hi] at this
  cases this
theorem right_yes {h : Hist} (h0 : h.txs.length ≤ 4096) (h1 : ∀ k, k + 1 < h.txs.length → (h.txs.getD k Txn.zero).id < (h.txs.getD (k + 1) Txn.zero).id) (h2 : ∀ k, k < h.txs.length → rightT (h.txs.getD k Txn.zero).id (h.txs.getD k Txn.zero).ops = 0 ∧ needsB h (h.txs.getD k Txn.zero) = true)
    (h3 : h.ords.length = (KW h.txs).length) (h4 : ∀ k, k < h.ords.length → (h.ords.getD k Ordr.zero).key = (KW h.txs).getD k 0 ∧ Om.permB (h.ords.getD k Ordr.zero).txs (wrsL h.txs (h.ords.getD k Ordr.zero).key) = true) : rightH h = true := by
  have at1 : ∀ t ∈ h.txs, ∃ k, k < h.txs.length ∧ h.txs.getD k Txn.zero = t := fun t ht => by
    obtain ⟨k, hk, e⟩ := List.getElem_of_mem ht
    exact ⟨k, hk, by rw [List.getD_eq_getElem?_getD, List.getElem?_eq_getElem hk]; exact e⟩
  have at2 : ∀ t ∈ h.ords, ∃ k, k < h.ords.length ∧ h.ords.getD k Ordr.zero = t := fun t ht => by
    obtain ⟨k, hk, e⟩ := List.getElem_of_mem ht
    exact ⟨k, hk, by rw [List.getD_eq_getElem?_getD, List.getElem?_eq_getElem hk]; exact e⟩
  refine right_iff.2 ⟨h0, fun t ht => ?_, pw_step Txn.zero Txn.id _ h1, fun t ht => ?_, List.ext_getElem (by rw [List.length_map]; exact h3) fun k hk hk2 => ?_, fun o ho => ?_⟩
  · obtain ⟨k, hk, rfl⟩ := at1 t ht
    exact (h2 k hk).1
  · obtain ⟨k, hk, rfl⟩ := at1 t ht
    exact (h2 k hk).2
  · rw [List.length_map] at hk
    have := (h4 k hk).1
    rw [List.getD_eq_getElem?_getD, List.getD_eq_getElem?_getD, List.getElem?_eq_getElem hk, List.getElem?_eq_getElem hk2] at this
    rw [List.getElem_map]
    exact this
  · obtain ⟨k, hk, rfl⟩ := at2 o ho
    exact (h4 k hk).2
end Go.Proofs.Ytmgkpabagpgilaa.Hi
namespace Go.Proofs.Ytmgkpabagpgilaa.Dg
open F Tx Hi
/-- An edge. -/
structure Edg where
  f : Int
  t : Int
  kd : Int
  k : Int
deriving DecidableEq
def setF (F : Int × Int → Option Int) (q : Int × Int) (v : Int) : Int × Int → Option Int := fun z => if z = q then some v else F z
/-- A round of the walk along an order. -/
def nxS (key : Int) (s : Int × (Int × Int → Option Int)) (x : Int) : Int × (Int × Int → Option Int) := (x, setF s.2 (s.1, key) x)
def nxL (key : Int) (F : Int × Int → Option Int) (l : List Int) : Int × (Int × Int → Option Int) := l.foldl (nxS key) (0, F)
def nxO (P : Int → Bool) (F : Int × Int → Option Int) (o : Ordr) : Int × Int → Option Int := if P o.key then (nxL o.key F o.txs).2 else F
/-- Who has the next version. -/
def nxH (P : Int → Bool) (os : List Ordr) : Int × Int → Option Int := os.foldl (nxO P) (fun _ => none)
theorem nxL_snoc (key : Int) (F : Int × Int → Option Int) (l : List Int) (j : Nat) (hj : j < l.length) : nxL key F (l.take (j + 1)) = nxS key (nxL key F (l.take j)) (l.getD j 0) := by
  unfold nxL
  rw [take_snoc l 0 j hj, List.foldl_append]
  rfl
theorem nxH_snoc (P : Int → Bool) (os : List Ordr) (j : Nat) (hj : j < os.length) : nxH P (os.take (j + 1)) = nxO P (nxH P (os.take j)) (os.getD j Ordr.zero) := by
  unfold nxH
  rw [take_snoc os Ordr.zero j hj, List.foldl_append]
  rfl
/-- How often one who is done writes a key that is looked at. -/
def laT (P : Int → Bool) (d : Bool) (l : List Opr) (k : Int) : Nat := if d && P k then wrN l k else 0
def laH (P : Int → Bool) : List Txn → Int → Int → Nat
  | [], _, _ => 0
  | x :: l, t, k => (if x.id = t then laT P x.dn x.ops k else 0) + laH P l t k
theorem laH_take (P : Int → Bool) (xs : List Txn) (k : Nat) (hk : k < xs.length) (t key : Int) : laH P (xs.take (k + 1)) t key = laH P (xs.take k) t key + (if (xs.getD k Txn.zero).id = t then laT P (xs.getD k Txn.zero).dn (xs.getD k Txn.zero).ops key else 0) := by
  induction xs generalizing k with
  | nil => simp at hk
  | cons x l ih =>
    cases k with
    | zero => simp [laH]
    | succ k =>
      have := ih k (by simpa using hk)
      simp only [List.take_succ_cons, laH, List.getD_cons_succ]
      rw [this]
      omega
theorem laT_le (P : Int → Bool) (d : Bool) (l : List Opr) (k : Int) : laT P d l k ≤ l.length := by
  unfold laT
  split
  · exact wrN_le l k
  · omega
theorem laH_bd (P : Int → Bool) : ∀ (xs : List Txn) (t key : Int), (∀ x ∈ xs, x.ops.length ≤ 100000) → laH P xs t key ≤ 100000 * xs.length
  | [], _, _, _ => by simp [laH]
  | x :: l, t, key, h => by
    have h1 := laH_bd P l t key fun y hy => h y (List.mem_cons_of_mem _ hy)
    have h2 := h x List.mem_cons_self
    have h3 := laT_le P x.dn x.ops key
    rw [laH, List.length_cons]
    split <;> omega
/-- A round adds one, where it is a write of a done one's, at a key that is looked at. -/
theorem laT_take (P : Int → Bool) (d : Bool) (l : List Opr) (j : Nat) (hj : j < l.length) (key : Int) : laT P d (l.take (j + 1)) key = laT P d (l.take j) key + (if (d && !(l.getD j Opr.zero).rd && P (l.getD j Opr.zero).k) = true ∧ (l.getD j Opr.zero).k = key then 1 else 0) := by
  unfold laT
  rw [wrN_take l j hj]
  generalize l.getD j Opr.zero = x
  cases d
  · simp
  · by_cases hk : x.k = key
    · subst hk
      cases hp : P x.k <;> cases hr : x.rd <;> simp
    · simp [hk]
theorem laH_some (P : Int → Bool) : ∀ (xs : List Txn) (t k : Int) (x : Txn), xs.Pairwise (fun a b => a.id < b.id) → findT xs t = some x → laH P xs t k = laT P x.dn x.ops k
  | [], _, _, _, _, h => by cases h
  | y :: l, t, k, x, hp, h => by
    obtain ⟨h1, h2⟩ := List.pairwise_cons.1 hp
    unfold findT at h
    split at h
    · rename_i he
      obtain rfl : y = x := by injection h
      have h0 : laH P l t k = 0 := by
        clear h h2 hp
        induction l with
        | nil => rfl
        | cons z l ih =>
          rw [laH, ih fun a ha => h1 a (List.mem_cons_of_mem _ ha), if_neg (by have := h1 z List.mem_cons_self; omega)]
      rw [laH, if_pos he, h0, Nat.add_zero]
    · rename_i he
      rw [laH, if_neg he, Nat.zero_add]
      exact laH_some P l t k x h2 h
theorem laH_none (P : Int → Bool) : ∀ (xs : List Txn) (t k : Int), findT xs t = none → laH P xs t k = 0
  | [], _, _, _ => rfl
  | y :: l, t, k, h => by
    unfold findT at h
    split at h
    · cases h
    · rename_i he
      rw [laH, if_neg he, Nat.zero_add]
      exact laH_none P l t k h
/-- What of the edges to the next version has been counted. -/
def wwF (nx : Int × Int → Option Int) (left : Int × Int → Bool) (e : Edg) : Nat := if e.kd = 1 ∧ e.f ≠ 0 ∧ nx (e.f, e.k) = some e.t ∧ left (e.f, e.k) = false then 1 else 0
/-- Whether a read is one of an installed version, or of what was there at first, and another one's. -/
def rdC (la : Int × Int → Int) (P : Int → Bool) (id : Int) (d : Bool) (o : Opr) : Bool := d && o.rd && decide (o.t ≠ id) && P o.k && decide (la (o.t, o.k) = o.n)
def wrE (id : Int) (o : Opr) : Edg := ⟨o.t, id, 2, o.k⟩
def rwE (id : Int) (o : Opr) (z : Int) : Edg := ⟨id, z, 3, o.k⟩
/-- What comes of a read. -/
def rdW (id : Int) (o : Opr) (e : Edg) : Nat := if o.t ≠ 0 ∧ e = wrE id o then 1 else 0
def rdR (nx : Int × Int → Option Int) (id : Int) (o : Opr) (e : Edg) : Nat := match nx (o.t, o.k) with
  | some z => if z ≠ id ∧ e = rwE id o z then 1 else 0
  | none => 0
def rdE (nx : Int × Int → Option Int) (la : Int × Int → Int) (P : Int → Bool) (id : Int) (d : Bool) (o : Opr) (e : Edg) : Nat := if rdC la P id d o then rdW id o e + rdR nx id o e else 0
def sumO (nx : Int × Int → Option Int) (la : Int × Int → Int) (P : Int → Bool) (id : Int) (d : Bool) : List Opr → Edg → Nat
  | [], _ => 0
  | o :: l, e => rdE nx la P id d o e + sumO nx la P id d l e
def sumT (nx : Int × Int → Option Int) (la : Int × Int → Int) (P : Int → Bool) : List Txn → Edg → Nat
  | [], _ => 0
  | t :: l, e => sumO nx la P t.id t.dn t.ops e + sumT nx la P l e
section
variable (nx : Int × Int → Option Int) (la : Int × Int → Int) (P : Int → Bool)
theorem sumO_take (id : Int) (d : Bool) (l : List Opr) (j : Nat) (hj : j < l.length) (e : Edg) : sumO nx la P id d (l.take (j + 1)) e = sumO nx la P id d (l.take j) e + rdE nx la P id d (l.getD j Opr.zero) e := by
  induction l generalizing j with
  | nil => simp at hj
  | cons x l ih =>
    cases j with
    | zero => simp [sumO]
    | succ j =>
      have := ih j (by simpa using hj)
      simp only [List.take_succ_cons, sumO, List.getD_cons_succ]
      rw [this]
      omega
theorem sumT_take (l : List Txn) (j : Nat) (hj : j < l.length) (e : Edg) : sumT nx la P (l.take (j + 1)) e = sumT nx la P (l.take j) e + sumO nx la P (l.getD j Txn.zero).id (l.getD j Txn.zero).dn (l.getD j Txn.zero).ops e := by
  induction l generalizing j with
  | nil => simp at hj
  | cons x l ih =>
    cases j with
    | zero => simp [sumT]
    | succ j =>
      have := ih j (by simpa using hj)
      simp only [List.take_succ_cons, sumT, List.getD_cons_succ]
      rw [this]
      omega
theorem rdE_le (id : Int) (d : Bool) (o : Opr) (e : Edg) : rdE nx la P id d o e ≤ 2 := by
  have h1 : rdW id o e ≤ 1 := by unfold rdW; split <;> omega
  have h2 : rdR nx id o e ≤ 1 := by
    unfold rdR
    split
    · split <;> omega
    · omega
  unfold rdE
  split <;> omega
theorem sumO_le (id : Int) (d : Bool) : ∀ (l : List Opr) (e : Edg), sumO nx la P id d l e ≤ 2 * l.length
  | [], _ => by simp [sumO]
  | o :: l, e => by
    have := sumO_le id d l e
    have := rdE_le nx la P id d o e
    rw [sumO, List.length_cons]
    omega
theorem sumT_le : ∀ (l : List Txn) (e : Edg), (∀ x ∈ l, x.ops.length ≤ 100000) → sumT nx la P l e ≤ 200000 * l.length
  | [], _, _ => by simp [sumT]
  | t :: l, e, h => by
    have := sumT_le l e fun y hy => h y (List.mem_cons_of_mem _ hy)
    have := sumO_le nx la P t.id t.dn t.ops e
    have := h t List.mem_cons_self
    rw [sumT, List.length_cons]
    omega
theorem sumO_ge (id : Int) (d : Bool) (e : Edg) : ∀ (l : List Opr) (o : Opr), o ∈ l → rdE nx la P id d o e ≤ sumO nx la P id d l e
  | x :: l, o, h => by
    rw [sumO]
    rcases List.mem_cons.1 h with rfl | h
    · omega
    · have := sumO_ge id d e l o h
      omega
theorem sumT_ge (e : Edg) : ∀ (l : List Txn) (t : Txn), t ∈ l → sumO nx la P t.id t.dn t.ops e ≤ sumT nx la P l e
  | x :: l, t, h => by
    rw [sumT]
    rcases List.mem_cons.1 h with rfl | h
    · omega
    · have := sumT_ge e l t h
      omega
end
/-- How often there is a reason for an edge, among the keys that are looked at. -/
def cntE (h : Hist) (P : Int → Bool) (e : Edg) : Nat :=
  if rightH h then wwF (nxH P h.ords) (fun _ => false) e + sumT (nxH P h.ords) (fun q => ((laH P h.txs q.1 q.2 : Nat) : Int)) P h.txs e else 0
end Go.Proofs.Ytmgkpabagpgilaa.Dg
namespace Go.Proofs.Ytmgkpabagpgilaa.Off
open F Tx Hi
/-- Whether a read of a transaction is such a one, as the document says. -/
def badB (h : Hist) (t : Txn) (o : Opr) (ph : Int) : Bool :=
  t.dn && o.rd && decide (o.t ≠ 0) && decide (o.t ≠ t.id) && (match findT h.txs o.t with
    | none => false
    | some u => if ph = 2 then !u.dn else decide (ph = 3) && decide (o.n < ((wrN u.ops o.k : Nat) : Int)))
def mkBad (t : Txn) (i : Nat) (o : Opr) : Bad := ⟨t.id, (i : Int), (verO o).t, (verO o).k, (verO o).n⟩
/-- Those of one transaction, from the i-th operation on. -/
def badsT (h : Hist) (t : Txn) (ph : Int) : Nat → List Opr → List Bad
  | _, [] => []
  | i, o :: l => (if badB h t o ph then [mkBad t i o] else []) ++ badsT h t ph (i + 1) l
def badsH (h : Hist) (ph : Int) : List Txn → List Bad
  | [] => []
  | t :: l => badsT h t ph 0 t.ops ++ badsH h ph l
def badsOf (h : Hist) (ph : Int) : List Bad := if rightH h then badsH h ph h.txs else []
theorem badsT_snoc (h : Hist) (t : Txn) (ph : Int) : ∀ (l : List Opr) (i k : Nat), k < l.length → badsT h t ph i (l.take (k + 1)) = badsT h t ph i (l.take k) ++ (if badB h t (l.getD k Opr.zero) ph then [mkBad t (i + k) (l.getD k Opr.zero)] else [])
  | o :: l, i, 0, _ => by simp [badsT]
  | o :: l, i, k + 1, hk => by
    have := badsT_snoc h t ph l (i + 1) k (by simpa using hk)
    simp only [List.take_succ_cons, badsT, List.getD_cons_succ]
    rw [this, List.append_assoc, show i + 1 + k = i + (k + 1) by omega]
theorem badsH_snoc (h : Hist) (ph : Int) : ∀ (l : List Txn) (k : Nat), k < l.length → badsH h ph (l.take (k + 1)) = badsH h ph (l.take k) ++ badsT h (l.getD k Txn.zero) ph 0 (l.getD k Txn.zero).ops
  | t :: l, 0, _ => by simp [badsH]
  | t :: l, k + 1, hk => by
    have := badsH_snoc h ph l k (by simpa using hk)
    simp only [List.take_succ_cons, badsH, List.getD_cons_succ]
    rw [this, List.append_assoc]
theorem badsT_len (h : Hist) (t : Txn) (ph : Int) : ∀ (l : List Opr) (i : Nat), (badsT h t ph i l).length ≤ l.length
  | [], _ => by simp [badsT]
  | o :: l, i => by
    have := badsT_len h t ph l (i + 1)
    rw [badsT, List.length_append, List.length_cons]
    split <;> simp <;> omega
theorem badsH_len (h : Hist) (ph : Int) : ∀ (l : List Txn), (∀ t ∈ l, t.ops.length ≤ 100) → (badsH h ph l).length ≤ 100 * l.length
  | [], _ => by simp [badsH]
  | t :: l, ho => by
    have h1 := badsH_len h ph l fun x hx => ho x (List.mem_cons_of_mem _ hx)
    have h2 := badsT_len h t ph t.ops 0
    have h3 := ho t List.mem_cons_self
    rw [badsH, List.length_append, List.length_cons]
    omega
/-- Who is done, by an id. -/
def doneF (xs : List Txn) (id : Int) : Bool := match findT xs id with
  | some t => t.dn
  | none => false
/-- Whether another one's version may not be read, as the program looks at it. -/
def offB (xs : List Txn) (v : Ver) (ph : Int) : Bool := if ph = 2 then !(doneF xs v.t) else if ph = 3 then decide (v.n < ((cntW xs v.t v.k : Nat) : Int)) else false
def othB (v : Ver) (id : Int) : Bool := decide (v.t ≠ 0) && decide (v.t ≠ id)
theorem needs_keep {id : Int} : ∀ (l : List Opr) (acc : List Ver) (v : Ver), v ∈ acc → v ∈ l.foldl (needStep id) acc
  | [], _, _, h => h
  | o :: l, acc, v, h => needs_keep l _ v (by
    unfold needStep
    split
    · exact List.mem_append_left _ h
    · exact h)
theorem needs_has {id : Int} : ∀ (l : List Opr) (acc : List Ver) {o : Opr}, o ∈ l → o.rd = true → o.t ≠ 0 → o.t ≠ id → (⟨o.t, o.k, o.n⟩ : Ver) ∈ l.foldl (needStep id) acc
  | x :: l, acc, o, h, hr, h0, h1 => by
    rcases List.mem_cons.1 h with e | h
    · subst e
      refine needs_keep l _ _ ?_
      have hv : verO o = ⟨o.t, o.k, o.n⟩ := by rw [verO, if_pos hr]
      unfold needStep need
      by_cases hi : inV acc (verO o) = true
      · rw [if_neg (by simp [hi])]
        rw [← hv]
        exact inV_iff.1 hi
      · rw [if_pos (by simp [hr, h0, h1, hi]), hv]
        exact List.mem_append_right _ (List.mem_singleton.2 rfl)
    · exact needs_has l _ h hr h0 h1
/-- The program's test, in the place of the document's. -/
theorem prog_bad {h : Hist} (hr : rightH h = true) {t : Txn} (ht : t ∈ h.txs) {o : Opr} (ho : o ∈ t.ops) (ph : Int) : (t.dn && (othB (verO o) t.id && offB h.txs (verO o) ph)) = badB h t o ph := by
  obtain ⟨_, h2, h3, h4, _⟩ := right_iff.1 hr
  unfold badB othB
  cases hrd : o.rd with
  | false => simp [verO, hrd]
  | true =>
    have hv : verO o = ⟨o.t, o.k, o.n⟩ := by rw [verO, if_pos hrd]
    rw [hv]
    by_cases h0 : o.t = 0
    · simp [h0]
    by_cases h1 : o.t = t.id
    · simp [h1]
    have hfind : ∃ u, findT h.txs o.t = some u := by
      have hn := h4 t ht
      unfold needsB at hn
      rw [List.all_eq_true] at hn
      have hm : (⟨o.t, o.k, o.n⟩ : Ver) ∈ needsL t.id t.ops := needs_has t.ops [] ho hrd h0 h1
      have := hn _ hm
      simp only at this
      cases hf : findT h.txs o.t with
      | some u => exact ⟨u, rfl⟩
      | none =>
        rw [hasB_none (fun e => h0 e.1) hf] at this
        cases this
    obtain ⟨u, hu⟩ := hfind
    unfold offB
    simp only [hu, doneF, cnt_some _ _ o.k u h3 hu]
    simp [h0, h1]
/-- What a round of the program's walk adds. -/
def rdsT (h : Hist) (P : Int → Bool) (t : Txn) (ph : Int) (l : List Opr) : List Bad := (badsT h t ph 0 l).filter fun b => P b.k
def rdsH (h : Hist) (P : Int → Bool) (ph : Int) (l : List Txn) : List Bad := (badsH h ph l).filter fun b => P b.k
def rdsOf (h : Hist) (P : Int → Bool) (ph : Int) : List Bad := if rightH h then rdsH h P ph h.txs else []
theorem rds_of (h : Hist) (P : Int → Bool) (ph : Int) : rdsOf h P ph = (badsOf h ph).filter fun b => P b.k := by
  unfold rdsOf badsOf
  split
  · rfl
  · rfl
theorem rdsT_snoc (h : Hist) (P : Int → Bool) (t : Txn) (ph : Int) (l : List Opr) (k : Nat) (hk : k < l.length) : rdsT h P t ph (l.take (k + 1)) = rdsT h P t ph (l.take k) ++ (if badB h t (l.getD k Opr.zero) ph && P (verO (l.getD k Opr.zero)).k then [mkBad t k (l.getD k Opr.zero)] else []) := by
  unfold rdsT
  rw [badsT_snoc h t ph l 0 k hk, List.filter_append, Nat.zero_add]
  congr 1
  generalize l.getD k Opr.zero = o
  cases hb : badB h t o ph with
  | false => simp
  | true =>
    cases hp : P (verO o).k with
    | false => simp [mkBad, hp]
    | true => simp [mkBad, hp]
theorem rdsH_snoc (h : Hist) (P : Int → Bool) (ph : Int) (l : List Txn) (k : Nat) (hk : k < l.length) : rdsH h P ph (l.take (k + 1)) = rdsH h P ph (l.take k) ++ rdsT h P (l.getD k Txn.zero) ph (l.getD k Txn.zero).ops := by
  unfold rdsH rdsT
  rw [badsH_snoc h ph l k hk, List.filter_append]
theorem rds_len (h : Hist) (P : Int → Bool) (ph : Int) (l : List Txn) (ho : ∀ t ∈ l, t.ops.length ≤ 100) : (rdsH h P ph l).length ≤ 100 * l.length := Nat.le_trans (List.length_filter_le _ _) (badsH_len h ph l ho)
theorem rdsT_len (h : Hist) (P : Int → Bool) (t : Txn) (ph : Int) (l : List Opr) : (rdsT h P t ph l).length ≤ l.length := Nat.le_trans (List.length_filter_le _ _) (badsT_len h t ph l 0)
/-- Whether a stands ahead of b. -/
def lessB (a b : Bad) : Bool := if a.tx ≠ b.tx then decide (a.tx < b.tx) else if a.pl ≠ b.pl then decide (a.pl < b.pl) else if a.t ≠ b.t then decide (a.t < b.t) else if a.k ≠ b.k then decide (a.k < b.k) else decide (a.n < b.n)
/-- Whether it is among them. -/
def inB (l : List Bad) (b : Bad) : Bool := l.any fun x => Bad.beq x b
def sameBs : List Bad → List Bad → Bool
  | [], [] => true
  | x :: a, y :: b => if Bad.beq x y then sameBs a b else false
  | _, _ => false
theorem sameBs_self : ∀ l : List Bad, sameBs l l = true
  | [] => rfl
  | x :: l => by rw [sameBs, Bad.beq_self, if_pos rfl]; exact sameBs_self l
theorem sameBs_len : ∀ (a b : List Bad), a.length ≠ b.length → sameBs a b = false
  | [], [], h => absurd rfl h
  | [], _ :: _, _ => rfl
  | _ :: _, [], _ => rfl
  | x :: a, y :: b, h => by
    rw [sameBs, sameBs_len a b (fun e => h (by simp [e]))]
    split <;> rfl
theorem inB_key (l : List Bad) (b : Bad) : inB (l.filter fun x => x.k == b.k) b = inB l b := by
  unfold inB
  induction l with
  | nil => rfl
  | cons x l ih =>
    by_cases h : x.k = b.k
    · rw [List.filter_cons_of_pos (by simp [h]), List.any_cons, List.any_cons, ih]
    · rw [List.filter_cons_of_neg (by simp [h]), List.any_cons, ih]
      have : Bad.beq x b = false := by
        rw [Bool.eq_false_iff]
        intro e
        exact h (by rw [(Bad.beq_iff x b).1 e])
      rw [this, Bool.false_or]
end Go.Proofs.Ytmgkpabagpgilaa.Off
namespace Go.Proofs.Ytmgkpabagpgilaa.Dg
open F Tx Hi Off
theorem badsT_mem {h : Hist} {t : Txn} {ph : Int} : ∀ {l : List Opr} {i : Nat} {b : Bad}, b ∈ badsT h t ph i l → ∃ j, j < l.length ∧ b = mkBad t (i + j) (l.getD j Opr.zero) ∧ badB h t (l.getD j Opr.zero) ph = true
  | o :: l, i, b, hb => by
    rw [badsT] at hb
    rcases List.mem_append.1 hb with h1 | h1
    · split at h1
      · rename_i hc
        exact ⟨0, by simp, by simpa using h1, by simpa using hc⟩
      · cases h1
    · obtain ⟨j, h2, h3, h4⟩ := badsT_mem h1
      exact ⟨j + 1, by simpa using h2, by rw [h3, List.getD_cons_succ, show i + 1 + j = i + (j + 1) by omega], by simpa using h4⟩
theorem mem_badsT {h : Hist} {t : Txn} {ph : Int} : ∀ {l : List Opr} {i j : Nat}, j < l.length → badB h t (l.getD j Opr.zero) ph = true → mkBad t (i + j) (l.getD j Opr.zero) ∈ badsT h t ph i l
  | o :: l, i, 0, _, hb => by
    rw [badsT]
    simp only [List.getD_cons_zero] at hb ⊢
    rw [if_pos hb]
    simp
  | o :: l, i, j + 1, hj, hb => by
    rw [badsT]
    simp only [List.getD_cons_succ] at hb ⊢
    have := mem_badsT (i := i + 1) (j := j) (by simpa using hj) hb
    rw [show i + 1 + j = i + (j + 1) by omega] at this
    exact List.mem_append_right _ this
theorem badsH_mem {h : Hist} {ph : Int} : ∀ {xs : List Txn} {b : Bad}, b ∈ badsH h ph xs ↔ ∃ t, t ∈ xs ∧ b ∈ badsT h t ph 0 t.ops
  | [], b => by simp [badsH]
  | x :: l, b => by
    rw [badsH, List.mem_append, badsH_mem]
    simp
theorem verO_rd {o : Opr} (h : o.rd = true) : verO o = ⟨o.t, o.k, o.n⟩ := by rw [verO, if_pos h]
/-- The reads that are told are in order. -/
theorem badsT_sorted (h : Hist) (t : Txn) (ph : Int) : ∀ (l : List Opr) (i : Nat), (badsT h t ph i l).Pairwise (fun a b => lessB a b = true)
  | [], _ => by simp [badsT]
  | o :: l, i => by
    rw [badsT]
    refine List.pairwise_append.2 ⟨by split <;> simp, badsT_sorted h t ph l (i + 1), fun a ha b hb => ?_⟩
    obtain ⟨j, _, rfl, _⟩ := badsT_mem hb
    split at ha
    · obtain rfl : a = mkBad t i o := by simpa using ha
      unfold lessB mkBad
      simp only
      rw [if_neg (by simp), if_pos (by omega), decide_eq_true_iff]
      omega
    · cases ha
theorem badsH_sorted (h : Hist) (ph : Int) : ∀ (xs : List Txn), xs.Pairwise (fun a b => a.id < b.id) → (badsH h ph xs).Pairwise (fun a b => lessB a b = true)
  | [], _ => by simp [badsH]
  | x :: l, hp => by
    obtain ⟨h1, h2⟩ := List.pairwise_cons.1 hp
    rw [badsH]
    refine List.pairwise_append.2 ⟨badsT_sorted h x ph x.ops 0, badsH_sorted h ph l h2, fun a ha b hb => ?_⟩
    obtain ⟨j, _, rfl, _⟩ := badsT_mem ha
    obtain ⟨t, ht, hb⟩ := badsH_mem.1 hb
    obtain ⟨j2, _, rfl, _⟩ := badsT_mem hb
    have := h1 t ht
    unfold lessB mkBad
    simp only
    rw [if_pos (by omega), decide_eq_true_iff]
    exact this
theorem bads_sorted {h : Hist} (hr : rightH h = true) (ph : Int) {i : Nat} (h0 : 0 < i) (hi : i < (badsOf h ph).length) : lessB ((badsOf h ph).getD (i - 1) Bad.zero) ((badsOf h ph).getD i Bad.zero) = true := by
  obtain ⟨_, _, hp, _⟩ := right_iff.1 hr
  have h1 : (badsOf h ph).Pairwise (fun a b => lessB a b = true) := by
    unfold badsOf
    rw [if_pos hr]
    exact badsH_sorted h ph _ hp
  rw [List.pairwise_iff_getElem] at h1
  have := h1 (i - 1) i (by omega) hi (by omega)
  rw [List.getD_eq_getElem?_getD, List.getD_eq_getElem?_getD, List.getElem?_eq_getElem hi, List.getElem?_eq_getElem (show i - 1 < (badsOf h ph).length by omega)]
  exact this
theorem id_one {xs : List Txn} (hp : xs.Pairwise (fun a b => a.id < b.id)) {a b : Txn} (ha : a ∈ xs) (hb : b ∈ xs) (h : a.id = b.id) : a = b := by
  induction xs with
  | nil => cases ha
  | cons x l ih =>
    obtain ⟨h1, h2⟩ := List.pairwise_cons.1 hp
    rcases List.mem_cons.1 ha with e1 | ha2
    · rcases List.mem_cons.1 hb with e2 | hb2
      · rw [e1, e2]
      · have := h1 b hb2
        rw [← e1] at this
        omega
    · rcases List.mem_cons.1 hb with e2 | hb2
      · have := h1 a ha2
        rw [← e2] at this
        omega
      · exact ih h2 ha2 hb2
/-- A read is told just if it is such a one. -/
theorem in_bads {h : Hist} (hr : rightH h = true) (ph : Int) {t : Txn} (ht : t ∈ h.txs) {i : Nat} (hi : i < t.ops.length) (hrd : (t.ops.getD i Opr.zero).rd = true) :
    inB (badsOf h ph) ⟨t.id, (i : Int), (t.ops.getD i Opr.zero).t, (t.ops.getD i Opr.zero).k, (t.ops.getD i Opr.zero).n⟩ = badB h t (t.ops.getD i Opr.zero) ph := by
  obtain ⟨_, _, hp, _⟩ := right_iff.1 hr
  have hm : mkBad t i (t.ops.getD i Opr.zero) = ⟨t.id, (i : Int), (t.ops.getD i Opr.zero).t, (t.ops.getD i Opr.zero).k, (t.ops.getD i Opr.zero).n⟩ := by
    unfold mkBad
    rw [verO_rd hrd]
  rw [← hm, Bool.eq_iff_iff]
  unfold inB badsOf
  rw [if_pos hr, List.any_eq_true]
  constructor
  · rintro ⟨x, hx, he⟩
    have he := (Bad.beq_iff x _).1 he
    obtain ⟨t', ht', hb⟩ := badsH_mem.1 hx
    obtain ⟨j, hj, rfl, hbad⟩ := badsT_mem hb
    unfold mkBad at he
    injection he with e1 e2
    obtain rfl := id_one hp ht' ht e1
    obtain rfl : j = i := by omega
    exact hbad
  · intro hb
    refine ⟨mkBad t i (t.ops.getD i Opr.zero), badsH_mem.2 ⟨t, ht, ?_⟩, Bad.beq_self _⟩
    have := mem_badsT (h := h) (t := t) (ph := ph) (i := 0) hi hb
    rwa [Nat.zero_add] at this
/-- Who is read is there, and has the version. -/
theorem read_there {h : Hist} (hr : rightH h = true) {t : Txn} (ht : t ∈ h.txs) {o : Opr} (ho : o ∈ t.ops) (hrd : o.rd = true) (h0 : o.t ≠ 0) (h1 : o.t ≠ t.id) : ∃ u, findT h.txs o.t = some u ∧ o.n ≤ ((wrN u.ops o.k : Nat) : Int) := by
  obtain ⟨_, _, _, h4, _⟩ := right_iff.1 hr
  have hn := h4 t ht
  unfold needsB at hn
  rw [List.all_eq_true] at hn
  have hm : (⟨o.t, o.k, o.n⟩ : Ver) ∈ needsL t.id t.ops := needs_has t.ops [] ho hrd h0 h1
  have := hn _ hm
  simp only at this
  cases hf : findT h.txs o.t with
  | some u =>
    rw [hasB_some (fun e => h0 e.1) hf, decide_eq_true_iff] at this
    exact ⟨u, rfl, this.2⟩
  | none =>
    rw [hasB_none (fun e => h0 e.1) hf] at this
    cases this
/-- None of both: just if the version is installed. -/
theorem none_installed {h : Hist} {t : Txn} {o : Opr} {u : Txn} (hd : t.dn = true) (hrd : o.rd = true) (h0 : o.t ≠ 0) (h1 : o.t ≠ t.id) (hu : findT h.txs o.t = some u) (hn : o.n ≤ ((wrN u.ops o.k : Nat) : Int)) :
    (!badB h t o 2 && !badB h t o 3) = (u.dn && decide (o.n = ((wrN u.ops o.k : Nat) : Int))) := by
  unfold badB
  simp only [hd, hrd, hu, decide_eq_true h0, decide_eq_true h1, Bool.true_and, if_pos, if_neg (show ¬ ((3 : Int) = 2) by decide)]
  rw [Bool.eq_iff_iff]
  simp
  intro _
  omega
/-- Then there is a reason for the edge. -/
theorem installed_edge {h : Hist} (hr : rightH h = true) {t : Txn} (ht : t ∈ h.txs) {o : Opr} (ho : o ∈ t.ops) (hd : t.dn = true) (hrd : o.rd = true) (h0 : o.t ≠ 0) (h1 : o.t ≠ t.id) {u : Txn} (hu : findT h.txs o.t = some u) (hud : u.dn = true) (hn : o.n = ((wrN u.ops o.k : Nat) : Int)) {P : Int → Bool} (hP : P o.k = true) :
    1 ≤ cntE h P ⟨o.t, t.id, 2, o.k⟩ := by
  obtain ⟨_, _, hp, _⟩ := right_iff.1 hr
  unfold cntE
  rw [if_pos hr]
  have h2 := sumT_ge (nxH P h.ords) (fun q => ((laH P h.txs q.1 q.2 : Nat) : Int)) P ⟨o.t, t.id, 2, o.k⟩ h.txs t ht
  have h3 := sumO_ge (nxH P h.ords) (fun q => ((laH P h.txs q.1 q.2 : Nat) : Int)) P t.id t.dn ⟨o.t, t.id, 2, o.k⟩ t.ops o ho
  have h4 : 1 ≤ rdE (nxH P h.ords) (fun q => ((laH P h.txs q.1 q.2 : Nat) : Int)) P t.id t.dn o ⟨o.t, t.id, 2, o.k⟩ := by
    have hla : laH P h.txs o.t o.k = wrN u.ops o.k := by rw [laH_some P _ _ _ _ hp hu]; unfold laT; rw [hud, hP]; rfl
    unfold rdE
    rw [if_pos (by unfold rdC; simp [hd, hrd, h1, hP, hla, hn])]
    have : rdW t.id o ⟨o.t, t.id, 2, o.k⟩ = 1 := by unfold rdW wrE; rw [if_pos ⟨h0, rfl⟩]
    omega
  omega
end Go.Proofs.Ytmgkpabagpgilaa.Dg
namespace Go.Proofs.Ytmgkpabagpgilaa.Dg
open Go.ChangeShapes Go.WideShapes Go.ChangeAt Go.RowKit Base F Tx Hi Off Go.Sort
def sameHs : List Hvy → List Hvy → Bool
  | [], [] => true
  | x :: a, y :: b => if Hvy.beq x y then sameHs a b else false
  | _, _ => false
theorem sameHs_len : ∀ (a b : List Hvy), a.length ≠ b.length → sameHs a b = false
  | [], [], h => absurd rfl h
  | [], _ :: _, _ => rfl
  | _ :: _, [], _ => rfl
  | x :: a, y :: b, h => by
    rw [sameHs, sameHs_len a b (fun e => h (by simp [e]))]
    split <;> rfl
theorem sameHs_self : ∀ l : List Hvy, sameHs l l = true
  | [] => rfl
  | x :: l => by rw [sameHs, Hvy.beq_self, if_pos rfl]; exact sameHs_self l
end Go.Proofs.Ytmgkpabagpgilaa.Dg
