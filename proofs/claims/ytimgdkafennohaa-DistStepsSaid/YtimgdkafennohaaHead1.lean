/-
  Contracts of small functions, several texts laid into one. Not a statement of the seat.
-/
import Derived.WalkKit
namespace Go.Proofs.Ytimgdkafennohaa.Ds
/-- What a search knows: how many arcs are left from a place (no number yet: none), who waits. -/
structure Ss where
  d : Nat → Option Nat
  q : List Nat
def putD (f : Nat → Option Nat) (i v : Nat) : Nat → Option Nat := fun j => if j = i then some v else f j
theorem putD_at (f : Nat → Option Nat) (i v : Nat) : putD f i v i = some v := by simp [putD]
theorem putD_ne (f : Nat → Option Nat) {i j : Nat} (v : Nat) (h : j ≠ i) : putD f i v j = f j := by simp [putD, h]
/-- One place is met: kept only if it may be, and was not met. -/
def meetD (ok : Nat → Bool) (k : Nat) (s : Ss) (x : Nat) : Ss := if ok x = true ∧ s.d x = none then ⟨putD s.d x k, s.q ++ [x]⟩ else s
/-- How far a place's number is known in order. -/
structure Sv (ok : Nat → Bool) (pv : Nat → List Nat) (a : Nat) (c : Nat) (s : Ss) : Prop where
  okd : ∀ x k, s.d x = some k → ok x = true
  zero : ∀ x k, s.d x = some k → (k = 0 ↔ x = a)
  wit : ∀ x k, s.d x = some (k + 1) → ∃ y, s.d y = some k ∧ x ∈ pv y
  known : ∀ x ∈ s.q, ∃ k, s.d x = some k ∧ c ≤ k ∧ k ≤ c + 1
  sorted : s.q.Pairwise (fun x y => ∀ k m, s.d x = some k → s.d y = some m → k ≤ m)
  top : ∀ x k, s.d x = some k → k ≤ c + 1
  nodup : s.q.Nodup
/-- All that leads to a place is told. -/
def Dn (ok : Nat → Bool) (pv : Nat → List Nat) (s : Ss) (x : Nat) : Prop := ∀ k, s.d x = some k → ∀ y ∈ pv x, ok y = true → ∃ m, s.d y = some m ∧ m ≤ k + 1
variable {ok : Nat → Bool} {pv : Nat → List Nat} {a c : Nat} {s : Ss}
theorem meetD_mono {k x y m : Nat} (h : s.d y = some m) : (meetD ok k s x).d y = some m := by
  unfold meetD
  split
  · rename_i hh
    show putD s.d x k y = _
    by_cases e : y = x
    · subst e; rw [hh.2] at h; cases h
    · rw [putD_ne _ _ e]; exact h
  · exact h
/-- A place is met while one of number c is worked at, whose arcs it leads to. -/
theorem Sv.meet (h : Sv ok pv a c s) {p x : Nat} (hp : s.d p = some c) (hx : x ∈ pv p) : Sv ok pv a c (meetD ok (c + 1) s x) ∧ ∀ m, (meetD ok (c + 1) s x).d x = some m → m ≤ c + 1 := by
  unfold meetD
  split
  · rename_i hh
    obtain ⟨hok, hn⟩ := hh
    have hxa : x ≠ p := fun e => by rw [e, hp] at hn; cases hn
    refine ⟨⟨fun y k hy => ?_, fun y k hy => ?_, fun y k hy => ?_, fun y hy => ?_, ?_, fun y k hy => ?_, ?_⟩, fun m hm => ?_⟩
    · by_cases e : y = x
      · rw [e]; exact hok
      · exact h.okd y k (by rw [← hy]; exact (putD_ne _ _ e).symm)
    · by_cases e : y = x
      · subst e
        have : some (c + 1) = some k := by rw [← hy]; exact (putD_at _ _ _).symm
        injection this with this
        refine ⟨fun e => by omega, fun e => ?_⟩
        -- the start is known
        exfalso
        obtain ⟨kz, hz⟩ : ∃ kz, s.d a = some kz := by
          have : ∀ n y, s.d y = some n → ∃ kz, s.d a = some kz := by
            intro n
            induction n with
            | zero => intro y hy; have := (h.zero y 0 hy).1 rfl; rw [this] at hy; exact ⟨_, hy⟩
            | succ n ih => intro y hy; obtain ⟨z, hz, _⟩ := h.wit y n hy; exact ih z hz
          exact this c p hp
        rw [← e, hn] at hz
        cases hz
      · exact h.zero y k (by rw [← hy]; exact (putD_ne _ _ e).symm)
    · by_cases e : y = x
      · subst e
        have : some (c + 1) = some (k + 1) := by rw [← hy]; exact (putD_at _ _ _).symm
        injection this with this
        have hk : k = c := by omega
        subst hk
        exact ⟨p, by show putD s.d y _ p = _; rw [putD_ne _ _ (Ne.symm hxa)]; exact hp, hx⟩
      · obtain ⟨z, hz, hm⟩ := h.wit y k (by rw [← hy]; exact (putD_ne _ _ e).symm)
        refine ⟨z, ?_, hm⟩
        show putD s.d x _ z = _
        by_cases e2 : z = x
        · subst e2; rw [hn] at hz; cases hz
        · rw [putD_ne _ _ e2]; exact hz
    · rcases List.mem_append.1 hy with hy | hy
      · obtain ⟨k, h1, h2⟩ := h.known y hy
        refine ⟨k, ?_, h2⟩
        show putD s.d x _ y = _
        by_cases e : y = x
        · subst e; rw [hn] at h1; cases h1
        · rw [putD_ne _ _ e]; exact h1
      · rw [List.mem_singleton] at hy
        subst hy
        exact ⟨c + 1, putD_at _ _ _, by omega, Nat.le_refl _⟩
    · show (s.q ++ [x]).Pairwise _
      rw [List.pairwise_append]
      have hq : ∀ y ∈ s.q, y ≠ x := fun y hy e => by
        obtain ⟨k, h1, _⟩ := h.known y hy
        rw [e, hn] at h1; cases h1
      refine ⟨h.sorted.imp_of_mem fun {y z} hy hz hyz k m hk hm => hyz k m (by rw [← hk]; exact (putD_ne _ _ (hq y hy)).symm) (by rw [← hm]; exact (putD_ne _ _ (hq z hz)).symm), by simp, fun y hy z hz k m hk hm => ?_⟩
      rw [List.mem_singleton] at hz
      subst hz
      have h1 : some (c + 1) = some m := by rw [← hm]; exact (putD_at _ _ _).symm
      injection h1 with h1
      have := h.top y k (by rw [← hk]; exact (putD_ne _ _ (hq y hy)).symm)
      omega
    · by_cases e : y = x
      · subst e
        have : some (c + 1) = some k := by rw [← hy]; exact (putD_at _ _ _).symm
        injection this with this
        omega
      · exact h.top y k (by rw [← hy]; exact (putD_ne _ _ e).symm)
    · show (s.q ++ [x]).Nodup
      rw [List.nodup_append]
      refine ⟨h.nodup, by simp, fun y hy z hz e => ?_⟩
      rw [List.mem_singleton] at hz
      subst hz e
      obtain ⟨k, h1, _⟩ := h.known y hy
      rw [hn] at h1; cases h1
    · have : some (c + 1) = some m := by rw [← hm]; exact (putD_at _ _ _).symm
      injection this with this
      omega
  · exact ⟨h, fun m hm => h.top x m hm⟩
/-- All that leads to p is met. -/
def meets (ok : Nat → Bool) (k : Nat) (s : Ss) (xs : List Nat) : Ss := xs.foldl (meetD ok k) s
theorem meets_snoc (k : Nat) (xs : List Nat) (x : Nat) : meets ok k s (xs ++ [x]) = meetD ok k (meets ok k s xs) x := by
  unfold meets
  rw [List.foldl_append]
  rfl
theorem meets_mono {k y m : Nat} : ∀ (xs : List Nat) {s : Ss}, s.d y = some m → (meets ok k s xs).d y = some m
  | [], _, h => h
  | _ :: xs, _, h => meets_mono xs (meetD_mono h)
theorem Sv.meets {p : Nat} : ∀ (xs : List Nat) {s : Ss}, Sv ok pv a c s → s.d p = some c → (∀ x ∈ xs, x ∈ pv p) → Sv ok pv a c (meets ok (c + 1) s xs)
  | [], _, h, _, _ => h
  | x :: xs, _, h, hp, hx => Sv.meets xs (h.meet hp (hx x List.mem_cons_self)).1 (meetD_mono hp) (fun y hy => hx y (List.mem_cons_of_mem _ hy))
theorem met_of {k x : Nat} (h : ok x = true) : ∃ m, (meetD ok k s x).d x = some m := by
  unfold meetD
  split
  · exact ⟨_, putD_at _ _ _⟩
  · rename_i hh
    cases e : s.d x with
    | none => exact absurd ⟨h, e⟩ hh
    | some m => exact ⟨m, rfl⟩
theorem mets_of {k x : Nat} (h : ok x = true) : ∀ (xs : List Nat) {s : Ss}, x ∈ xs → ∃ m, (meets ok k s xs).d x = some m
  | [], _, hx => by cases hx
  | y :: xs, s, hx => by
    rcases List.mem_cons.1 hx with rfl | hx
    · obtain ⟨m, hm⟩ := met_of (s := s) (k := k) h
      exact ⟨m, meets_mono xs hm⟩
    · exact mets_of h xs hx
/-- A search on its way: who is known and does not wait is done. -/
structure Go_ (ok : Nat → Bool) (pv : Nat → List Nat) (a c : Nat) (s : Ss) : Prop where
  sv : Sv ok pv a c s
  done : ∀ x, x ∉ s.q → Dn ok pv s x
theorem Dn.mono {s s' : Ss} {x : Nat} (h : Dn ok pv s x) (hx : ∃ k, s.d x = some k) (hm : ∀ y m, s.d y = some m → s'.d y = some m) : Dn ok pv s' x := by
  intro k hk y hy hok
  obtain ⟨k0, h0⟩ := hx
  have : k0 = k := by
    have := hm x k0 h0
    rw [hk] at this
    injection this with this
    exact this.symm
  subst this
  obtain ⟨m, h1, h2⟩ := h k0 h0 y hy hok
  exact ⟨m, hm y m h1, h2⟩
theorem meets_q {k : Nat} : ∀ (xs : List Nat) {s : Ss}, ∃ ys, (meets ok k s xs).q = s.q ++ ys ∧ ∀ x, (meets ok k s xs).d x = s.d x ∨ (s.d x = none ∧ x ∈ ys)
  | [], s => ⟨[], by simp [meets], fun x => .inl rfl⟩
  | x :: xs, s => by
    obtain ⟨ys, h1, h2⟩ := meets_q (k := k) xs (s := meetD ok k s x)
    have e : meets ok k s (x :: xs) = meets ok k (meetD ok k s x) xs := rfl
    rw [e, h1]
    by_cases hh : ok x = true ∧ s.d x = none
    · have e1 : meetD ok k s x = ⟨putD s.d x k, s.q ++ [x]⟩ := by unfold meetD; rw [if_pos hh]
      rw [e1] at h2 ⊢
      refine ⟨x :: ys, by simp, fun y => ?_⟩
      by_cases ey : y = x
      · subst ey; exact .inr ⟨hh.2, List.mem_cons_self⟩
      · rcases h2 y with h | ⟨h, hm⟩
        · left; rw [h]; exact putD_ne _ _ ey
        · refine .inr ⟨?_, List.mem_cons_of_mem _ hm⟩
          rw [← h]; exact (putD_ne _ _ ey).symm
    · have e1 : meetD ok k s x = s := by unfold meetD; rw [if_neg hh]
      rw [e1] at h2 ⊢
      exact ⟨ys, rfl, h2⟩
/-- The next one is taken, and all that leads to it is met. -/
theorem Go_.step (h : Go_ ok pv a c s) {p : Nat} {q : List Nat} (hq : s.q = p :: q) : ∃ c', s.d p = some c' ∧ c ≤ c' ∧ Sv ok pv a c' ⟨s.d, q⟩ ∧ Go_ ok pv a c' (meets ok (c' + 1) ⟨s.d, q⟩ (pv p)) := by
  obtain ⟨c', h1, h2, h3⟩ := h.sv.known p (by rw [hq]; exact List.mem_cons_self)
  have hs := h.sv.sorted
  rw [hq, List.pairwise_cons] at hs
  have hn := h.sv.nodup
  rw [hq, List.nodup_cons] at hn
  have hsv : Sv ok pv a c' ⟨s.d, q⟩ := by
    refine ⟨h.sv.okd, h.sv.zero, h.sv.wit, fun x hx => ?_, hs.2, fun x k hk => ?_, hn.2⟩
    · obtain ⟨k, k1, k2, k3⟩ := h.sv.known x (by rw [hq]; exact List.mem_cons_of_mem _ hx)
      exact ⟨k, k1, hs.1 x hx c' k h1 k1, by omega⟩
    · have := h.sv.top x k hk; omega
  refine ⟨c', h1, h2, hsv, ⟨hsv.meets (pv p) h1 (fun x hx => hx), fun x hx => ?_⟩⟩
  obtain ⟨ys, hy1, hy2⟩ := meets_q (ok := ok) (k := c' + 1) (pv p) (s := ⟨s.d, q⟩)
  have hmono : ∀ y m, s.d y = some m → (meets ok (c' + 1) ⟨s.d, q⟩ (pv p)).d y = some m := fun y m hm => meets_mono (s := ⟨s.d, q⟩) (pv p) hm
  by_cases e : x = p
  · subst e
    intro k hk y hy hok
    have : k = c' := by
      have := hmono x c' h1
      rw [hk] at this
      injection this
    subst this
    obtain ⟨m, hm⟩ := mets_of (k := k + 1) hok (pv x) (s := ⟨s.d, q⟩) hy
    exact ⟨m, hm, (hsv.meets (pv x) h1 (fun x hx => hx)).top y m hm⟩
  · rw [hy1] at hx
    have hxq : x ∉ s.q := by
      rw [hq]
      intro hh
      rcases List.mem_cons.1 hh with hh | hh
      · exact e hh
      · exact hx (List.mem_append_left _ hh)
    intro k hk
    rcases hy2 x with h4 | ⟨_, h4⟩
    · have h5 : s.d x = some k := by rw [← hk]; exact h4.symm
      exact (h.done x hxq).mono ⟨k, h5⟩ hmono k hk
    · exact absurd (List.mem_append_right _ h4) hx
/-- What a search tells in the end. -/
structure IsD (ok : Nat → Bool) (pv : Nat → List Nat) (a : Nat) (d : Nat → Option Nat) : Prop where
  okd : ∀ x k, d x = some k → ok x = true
  zero : ∀ x k, d x = some k → (k = 0 ↔ x = a)
  wit : ∀ x k, d x = some (k + 1) → ∃ y, d y = some k ∧ x ∈ pv y
  near : ∀ x k, d x = some k → ∀ y ∈ pv x, ok y = true → ∃ m, d y = some m ∧ m ≤ k + 1
  start : ok a = true → d a = some 0
theorem Go_.end_ (h : Go_ ok pv a c s) (hq : s.q = []) (ha : ok a = true → s.d a = some 0) : IsD ok pv a s.d :=
  ⟨h.sv.okd, h.sv.zero, h.sv.wit, fun x k hk => h.done x (by rw [hq]; simp) k hk, ha⟩
/-- There is but one. -/
theorem IsD.le {d d' : Nat → Option Nat} (h : IsD ok pv a d) (h' : IsD ok pv a d') : ∀ (k x : Nat), d x = some k → ∃ m, d' x = some m ∧ m ≤ k := by
  intro k
  induction k with
  | zero =>
    intro x hx
    have e := (h.zero x 0 hx).1 rfl
    subst e
    exact ⟨0, h'.start (h.okd x 0 hx), Nat.le_refl _⟩
  | succ k ih =>
    intro x hx
    obtain ⟨y, hy, hm⟩ := h.wit x k hx
    obtain ⟨m, h1, h2⟩ := ih y hy
    obtain ⟨m', h3, h4⟩ := h'.near y m h1 x hm (h.okd x _ hx)
    exact ⟨m', h3, by omega⟩
theorem IsD.one {d d' : Nat → Option Nat} (h : IsD ok pv a d) (h' : IsD ok pv a d') (x : Nat) : d x = d' x := by
  cases e : d x with
  | none =>
    cases e' : d' x with
    | none => rfl
    | some m => obtain ⟨k, h1, _⟩ := h'.le h m x e'; rw [e] at h1; cases h1
  | some k =>
    obtain ⟨m, h1, h2⟩ := h.le h' k x e
    obtain ⟨k', h3, h4⟩ := h'.le h m x h1
    rw [e] at h3
    injection h3 with h3
    rw [h1]
    congr 1
    omega
/-- Nothing is known, and the start may not be. -/
theorem IsD.none_ (h : ok a = false) : IsD ok pv a (fun _ => none) := ⟨fun x k e => by simp at e, fun x k e => by simp at e, fun x k e => by simp at e, fun x k e => by simp at e, fun e => by rw [h] at e; cases e⟩
theorem start_go (h : ok a = true) : Go_ ok pv a 0 ⟨fun x => if x = a then some 0 else none, [a]⟩ := by
  refine ⟨⟨fun x k e => ?_, fun x k e => ?_, fun x k e => ?_, fun x hx => ?_, by simp, fun x k e => ?_, by simp⟩, fun x hx k e => ?_⟩
  · dsimp only at e
    split at e
    · rename_i hh; rw [hh]; exact h
    · cases e
  · dsimp only at e
    split at e
    · rename_i hh; injection e with e; simp [hh, ← e]
    · cases e
  · dsimp only at e
    split at e
    · injection e with e; omega
    · cases e
  · rw [List.mem_singleton] at hx
    exact ⟨0, by simp [hx], Nat.le_refl _, by omega⟩
  · dsimp only at e
    split at e
    · injection e with e; omega
    · cases e
  · dsimp only at e
    split at e
    · rename_i hh; exact absurd (by rw [hh]; exact List.mem_singleton.2 rfl) hx
    · cases e
end Go.Proofs.Ytimgdkafennohaa.Ds
namespace Go.Proofs.Ytimgdkafennohaa.Rf
/-! numbers in order, each once -/
abbrev Rises (l : List Int) : Prop := l.Pairwise (· < ·)
theorem rises_ext : ∀ {l m : List Int}, Rises l → Rises m → (∀ x, x ∈ l ↔ x ∈ m) → l = m
  | [], [], _, _, _ => rfl
  | [], y :: m, _, _, h => by have := (h y).2 List.mem_cons_self; cases this
  | x :: l, [], _, _, h => by have := (h x).1 List.mem_cons_self; cases this
  | x :: l, y :: m, hl, hm, h => by
    obtain ⟨hl1, hl2⟩ := List.pairwise_cons.1 hl
    obtain ⟨hm1, hm2⟩ := List.pairwise_cons.1 hm
    have hxy : x = y := by
      rcases List.mem_cons.1 ((h x).1 List.mem_cons_self) with e | e
      · exact e
      · rcases List.mem_cons.1 ((h y).2 List.mem_cons_self) with e' | e'
        · exact e'.symm
        · have := hl1 y e'
          have := hm1 x e
          omega
    subst hxy
    rw [rises_ext hl2 hm2 fun z => ?_]
    constructor
    · intro hz
      rcases List.mem_cons.1 ((h z).1 (List.mem_cons_of_mem _ hz)) with e | e
      · have := hl1 z hz; omega
      · exact e
    · intro hz
      rcases List.mem_cons.1 ((h z).2 (List.mem_cons_of_mem _ hz)) with e | e
      · have := hm1 z hz; omega
      · exact e
/-- A list with one more, put ahead of the first that is not less. -/
def putF (n : Int) : List Int → List Int
  | [] => [n]
  | x :: l => if n ≤ x then n :: (x :: l).filter (fun y => y != n) else x :: putF n l
theorem mem_putF (n y : Int) : ∀ l, y ∈ putF n l ↔ y = n ∨ y ∈ l
  | [] => by simp [putF]
  | x :: l => by
    unfold putF
    split
    · simp only [List.mem_cons, List.mem_filter, bne_iff_ne, ne_eq]
      constructor
      · rintro (h | ⟨h, _⟩)
        · exact .inl h
        · exact .inr h
      · rintro (h | h)
        · exact .inl h
        · by_cases e : y = n
          · exact .inl e
          · exact .inr ⟨h, e⟩
    · rw [List.mem_cons, mem_putF n y l, List.mem_cons]
      constructor
      · rintro (h | h | h)
        · exact .inr (.inl h)
        · exact .inl h
        · exact .inr (.inr h)
      · rintro (h | h | h)
        · exact .inr (.inl h)
        · exact .inl h
        · exact .inr (.inr h)
theorem rises_putF (n : Int) : ∀ {l : List Int}, Rises l → Rises (putF n l)
  | [], _ => by simp [putF]
  | x :: l, h => by
    obtain ⟨h1, h2⟩ := List.pairwise_cons.1 h
    unfold putF
    split
    · rename_i hn
      refine List.pairwise_cons.2 ⟨fun y hy => ?_, h.filter _⟩
      rw [List.mem_filter] at hy
      obtain ⟨hy1, hy2⟩ := hy
      simp only [bne_iff_ne, ne_eq] at hy2
      rcases List.mem_cons.1 hy1 with e | e
      · omega
      · have := h1 y e; omega
    · rename_i hn
      refine List.pairwise_cons.2 ⟨fun y hy => ?_, rises_putF n h2⟩
      rcases (mem_putF n y l).1 hy with e | e
      · omega
      · exact h1 y e
theorem putF_len (n : Int) : ∀ l, (putF n l).length ≤ l.length + 1
  | [] => by simp [putF]
  | x :: l => by
    unfold putF
    split
    · have := List.length_filter_le (fun y => y != n) (x :: l)
      simp only [List.length_cons] at this ⊢
      omega
    · have := putF_len n l
      simp only [List.length_cons]
      omega
/-- What is still to come: n was put, or not. -/
def goF (n : Int) (b : Bool) (l : List Int) : List Int := if b then l.filter (fun y => y != n) else putF n l
theorem goF_lt {n x : Int} {l : List Int} (h : x < n) : goF n false (x :: l) = x :: goF n false l := by
  show putF n (x :: l) = x :: putF n l
  rw [putF, if_neg (by omega)]
theorem goF_eq (n : Int) (l : List Int) : goF n false (n :: l) = n :: goF n true l := by
  show putF n (n :: l) = n :: l.filter _
  rw [putF, if_pos (Int.le_refl _)]
  simp
theorem goF_gt {n x : Int} {l : List Int} (h : n < x) : goF n false (x :: l) = n :: x :: goF n true l := by
  show putF n (x :: l) = n :: x :: l.filter _
  rw [putF, if_pos (by omega), List.filter_cons_of_pos (by simp; omega)]
theorem goF_skip (n : Int) (l : List Int) : goF n true (n :: l) = goF n true l := by simp [goF]
theorem goF_keep {n x : Int} {l : List Int} (h : x ≠ n) : goF n true (x :: l) = x :: goF n true l := by simp [goF, h]
/-- The keys, in order, each once. -/
def keysL (ks : List Int) : List Int := ks.foldl (fun acc k => putF k acc) []
theorem keysL_snoc (ks : List Int) (k : Int) : keysL (ks ++ [k]) = putF k (keysL ks) := by unfold keysL; rw [List.foldl_append]; rfl
theorem fold_rises : ∀ (ks acc : List Int), Rises acc → Rises (ks.foldl (fun acc k => putF k acc) acc) ∧ ∀ y, y ∈ ks.foldl (fun acc k => putF k acc) acc ↔ y ∈ acc ∨ y ∈ ks
  | [], acc, h => ⟨h, by simp⟩
  | k :: ks, acc, h => by
    obtain ⟨h1, h2⟩ := fold_rises ks (putF k acc) (rises_putF k h)
    refine ⟨h1, fun y => ?_⟩
    rw [List.foldl_cons, h2, mem_putF, List.mem_cons]
    constructor
    · rintro ((h | h) | h)
      · exact .inr (.inl h)
      · exact .inl h
      · exact .inr (.inr h)
    · rintro (h | h | h)
      · exact .inl (.inr h)
      · exact .inl (.inl h)
      · exact .inr h
theorem keysL_rises (ks : List Int) : Rises (keysL ks) := (fold_rises ks [] (by simp)).1
theorem mem_keysL {ks : List Int} {y : Int} : y ∈ keysL ks ↔ y ∈ ks := by
  have := (fold_rises ks [] (by simp)).2 y
  simpa [keysL] using this
theorem keysL_len (ks : List Int) : (keysL ks).length ≤ ks.length := by
  have : ∀ (ks acc : List Int), (ks.foldl (fun acc k => putF k acc) acc).length ≤ acc.length + ks.length := by
    intro ks
    induction ks with
    | nil => intro acc; simp
    | cons k ks ih =>
      intro acc
      have h1 := ih (putF k acc)
      have h2 := putF_len k acc
      simp only [List.foldl_cons, List.length_cons]
      omega
  have := this ks []
  simpa [keysL] using this
theorem take_snoc {α : Type} (l : List α) (d : α) (k : Nat) (h : k < l.length) : l.take (k + 1) = l.take k ++ [l.getD k d] := by
  rw [List.take_succ_eq_append_getElem h, List.getD_eq_getElem?_getD, List.getElem?_eq_getElem h]; rfl
theorem drop_cons {α : Type} (l : List α) (d : α) (k : Nat) (h : k < l.length) : l.drop k = l.getD k d :: l.drop (k + 1) := by
  rw [List.drop_eq_getElem_cons h, List.getD_eq_getElem?_getD, List.getElem?_eq_getElem h]; rfl
end Go.Proofs.Ytimgdkafennohaa.Rf
