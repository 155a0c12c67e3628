/-
  Contracts of small functions, several texts laid into one. Not a statement of the seat.
-/
import Derived.WalkKit
namespace Go.Proofs.YtimgdkafennohaaGreatDoor.Sc
inductive Rch (nx : Nat → List Nat) (a : Nat) : Nat → Prop
  | refl : Rch nx a a
  | tail {b c : Nat} : Rch nx a b → c ∈ nx b → Rch nx a c
theorem Rch.trans {nx : Nat → List Nat} {a b c : Nat} (h : Rch nx a b) (k : Rch nx b c) : Rch nx a c := by
  induction k with
  | refl => exact h
  | tail _ e ih => exact ih.tail e
theorem Rch.arc {nx : Nat → List Nat} {a b : Nat} (h : b ∈ nx a) : Rch nx a b := Rch.refl.tail h
theorem Rch.head {nx : Nat → List Nat} {a b c : Nat} (h : b ∈ nx a) (k : Rch nx b c) : Rch nx a c := (Rch.arc h).trans k
/-- What is closed under arcs is not left. -/
theorem Rch.stays {nx : Nat → List Nat} {P : Nat → Prop} (hP : ∀ a, P a → ∀ b ∈ nx a, P b) {a b : Nat} (h : Rch nx a b) (ha : P a) : P b := by
  induction h with
  | refl => exact ha
  | tail _ e ih => exact hP _ ih _ e
structure St where
  met : Nat
  num : Nat → Nat
  low : Nat → Nat
  opn : List Nat
  lab : Nat → Nat
def put (f : Nat → Nat) (i v : Nat) : Nat → Nat := fun j => if j = i then v else f j
theorem put_at (f : Nat → Nat) (i v : Nat) : put f i v i = v := by simp [put]
theorem put_ne (f : Nat → Nat) {i j : Nat} (v : Nat) (h : j ≠ i) : put f i v j = f j := by simp [put, h]
def Mut (nx : Nat → List Nat) (a b : Nat) : Prop := Rch nx a b ∧ Rch nx b a
def IsLab (nx : Nat → List Nat) (v l : Nat) : Prop := Mut nx v l ∧ ∀ z, Mut nx v z → l ≤ z
structure Inv (nx : Nat → List Nat) (s : St) : Prop where
  le : ∀ v, s.num v ≤ s.met
  opn : ∀ v ∈ s.opn, s.num v ≠ 0
  dec : s.opn.Pairwise (fun a b => s.num b < s.num a)
  closed : ∀ v, s.num v ≠ 0 → v ∉ s.opn → ∀ t ∈ nx v, s.num t ≠ 0 ∧ t ∉ s.opn
  lab : ∀ v, s.num v ≠ 0 → v ∉ s.opn → IsLab nx v (s.lab v)
structure Vis (nx : Nat → List Nat) (v : Nat) (s s' : St) (X : List Nat) : Prop where
  inv : Inv nx s'
  opn : s'.opn = X ++ s.opn
  kept : ∀ u, s.num u ≠ 0 → s'.num u = s.num u ∧ s'.low u = s.low u
  met : s.met ≤ s'.met
  late : ∀ u, s.num u = 0 → s'.num u ≠ 0 → s.met < s'.num u
  new : ∀ u ∈ X, s.num u = 0
  succ : ∀ u, s.num u = 0 → s'.num u ≠ 0 → ∀ t ∈ nx u, s'.num t ≠ 0
  there : s'.num v ≠ 0
  shut : X = [] → s'.low v = s'.num v
  some : X ≠ [] → v ∈ X ∧ (∀ y ∈ X, Rch nx v y) ∧ (∃ z ∈ s.opn, Rch nx v z ∧ s.num z = s'.low v) ∧ (∀ y ∈ X, ∃ z ∈ s.opn, Rch nx y z) ∧ ∀ y ∈ X, ∀ t ∈ nx y, t ∈ s.opn → s'.low v ≤ s.num t
/-- Within a visit of v, behind the arcs of pre. -/
structure Way (nx : Nat → List Nat) (v : Nat) (s : St) (pre : List Nat) (s' : St) (X : List Nat) : Prop where
  inv : Inv nx s'
  opn : s'.opn = X ++ s.opn
  kept : ∀ u, s.num u ≠ 0 → s'.num u = s.num u ∧ s'.low u = s.low u
  met : s.met + 1 ≤ s'.met
  numv : s'.num v = s.met + 1
  was : s.num v = 0
  late : ∀ u, s.num u = 0 → s'.num u ≠ 0 → s.met < s'.num u
  new : ∀ u ∈ X, s.num u = 0
  succ : ∀ u, u ≠ v → s.num u = 0 → s'.num u ≠ 0 → ∀ t ∈ nx u, s'.num t ≠ 0
  succv : ∀ t ∈ pre, s'.num t ≠ 0
  vin : v ∈ X
  rch : ∀ y ∈ X, Rch nx v y
  lowle : s'.low v ≤ s'.num v
  lowat : ∃ z ∈ s'.opn, Rch nx v z ∧ s'.num z = s'.low v
  down : ∀ y ∈ X, y ≠ v → ∃ z ∈ s'.opn, Rch nx y z ∧ s'.num z < s'.num y
  out : ∀ y ∈ X, ∀ t ∈ nx y, (y = v → t ∈ pre) → t ∈ s.opn → s'.low v ≤ s.num t
variable {nx : Nat → List Nat} {v t : Nat} {s s1 s2 : St} {X X2 pre : List Nat}
def meetS (s : St) (v : Nat) : St := { met := s.met + 1, num := put s.num v (s.met + 1), low := put s.low v (s.met + 1), opn := v :: s.opn, lab := s.lab }
theorem Way.start (h : Inv nx s) (hv : s.num v = 0) : Way nx v s [] (meetS s v) [v] := by
  have hno : v ∉ s.opn := fun hm => h.opn v hm hv
  have hno' : ∀ u, u ∈ s.opn → u ≠ v := fun u hu e => by rw [e] at hu; exact hno hu
  have hne : ∀ u, s.num u ≠ 0 → u ≠ v := fun u hu e => hu (e ▸ hv)
  refine ⟨⟨fun u => ?_, fun u hu => ?_, ?_, fun u hu hn t ht => ?_, fun u hu hn => ?_⟩, rfl, fun u hu => ?_, Nat.le_refl _, put_at _ _ _, hv, fun u hu hu' => ?_, fun u hu => by simp at hu; rw [hu]; exact hv, fun u hne hu hu' => ?_, (fun t ht => by cases ht), by simp, fun y hy => by simp at hy; rw [hy]; exact .refl, by simp [meetS, put], ⟨v, by simp [meetS], .refl, by simp [meetS, put]⟩, fun y hy hn => by simp at hy; exact absurd hy hn, fun y hy t _ hp => by simp at hy; exact absurd (hp hy) (by simp)⟩
  · by_cases e : u = v
    · simp [meetS, put, e]
    · simp only [meetS]; rw [put_ne _ _ e]; have := h.le u; omega
  · simp only [meetS, List.mem_cons] at hu
    rcases hu with rfl | hu
    · simp [meetS, put]
    · simp only [meetS]; rw [put_ne _ _ (hno' u hu)]; exact h.opn u hu
  · simp only [meetS, List.pairwise_cons]
    refine ⟨fun u hu => ?_, h.dec.imp_of_mem fun {a b} ha hb hab => ?_⟩
    · rw [put_at, put_ne _ _ (hno' u hu)]; have := h.le u; omega
    · rw [put_ne _ _ (hno' a ha), put_ne _ _ (hno' b hb)]; exact hab
  · simp only [meetS, List.mem_cons, not_or] at hu hn ⊢
    rw [put_ne _ _ hn.1] at hu
    obtain ⟨h1, h2⟩ := h.closed u hu hn.2 t ht
    have := hne t h1
    rw [put_ne _ _ this]
    exact ⟨h1, this, h2⟩
  · simp only [meetS, List.mem_cons, not_or] at hu hn ⊢
    rw [put_ne _ _ hn.1] at hu
    exact h.lab u hu hn.2
  · simp only [meetS]
    rw [put_ne _ _ (hne u hu), put_ne _ _ (hne u hu)]
    exact ⟨rfl, rfl⟩
  · by_cases e : u = v
    · simp [meetS, put, e]
    · simp only [meetS] at hu'; rw [put_ne _ _ e] at hu'; exact absurd hu hu'
  · simp only [meetS] at hu'; rw [put_ne _ _ hne] at hu'; exact absurd hu hu'
/-- An arc to a node that is settled. -/
theorem Way.past (h : Way nx v s pre s1 X) (h1 : s1.num t ≠ 0) (h2 : t ∉ s1.opn) : Way nx v s (pre ++ [t]) s1 X := by
  refine { h with succv := fun u hu => ?_, out := fun y hy u hu hp ho => ?_ }
  · rcases List.mem_append.1 hu with hu | hu
    · exact h.succv u hu
    · rw [List.mem_singleton] at hu; rw [hu]; exact h1
  · refine h.out y hy u hu (fun e => ?_) ho
    rcases List.mem_append.1 (hp e) with hq | hq
    · exact hq
    · rw [List.mem_singleton] at hq
      exact absurd (by rw [h.opn, hq.symm]; exact List.mem_append_right _ ho) h2
def lowS (s : St) (v x : Nat) : St := { s with low := put s.low v x }
/-- An arc to a node that is open. -/
theorem Way.back (h : Way nx v s pre s1 X) (ht : t ∈ nx v) (h2 : t ∈ s1.opn) : Way nx v s (pre ++ [t]) (lowS s1 v (min (s1.low v) (s1.num t))) X := by
  have hl : (lowS s1 v (min (s1.low v) (s1.num t))).low v = min (s1.low v) (s1.num t) := put_at _ _ _
  refine ⟨⟨h.inv.le, h.inv.opn, h.inv.dec, h.inv.closed, h.inv.lab⟩, h.opn, fun u hu => ?_, h.met, h.numv, h.was, h.late, h.new, h.succ, fun u hu => ?_, h.vin, h.rch, ?_, ?_, h.down, fun y hy u hu hp ho => ?_⟩
  · have hne : u ≠ v := fun e => hu (e ▸ h.was)
    exact ⟨(h.kept u hu).1, by simp only [lowS]; rw [put_ne _ _ hne]; exact (h.kept u hu).2⟩
  · rcases List.mem_append.1 hu with hu | hu
    · exact h.succv u hu
    · rw [List.mem_singleton] at hu; rw [hu]; exact h.inv.opn t h2
  · rw [hl]; have := h.lowle; show min _ _ ≤ s1.num v; omega
  · rw [hl]
    obtain ⟨z, hz, hr, he⟩ := h.lowat
    rcases Nat.le_total (s1.low v) (s1.num t) with hle | hle
    · exact ⟨z, hz, hr, by rw [Nat.min_eq_left hle]; exact he⟩
    · exact ⟨t, h2, .arc ht, by rw [Nat.min_eq_right hle]; rfl⟩
  · rw [hl]
    by_cases e : y = v
    · rcases List.mem_append.1 (hp e) with hq | hq
      · have := h.out y hy u hu (fun _ => hq) ho; omega
      · rw [List.mem_singleton] at hq
        have hk : s.num u ≠ 0 := fun h0 => by
          have := h.inv.opn t h2
          have h3 := h.inv.dec
          rw [h.opn, List.pairwise_append] at h3
          have h4 := h3.2.2 v h.vin u ho
          have := h.numv
          by_cases h5 : s1.num u = 0
          · have := h.inv.opn u (by rw [h.opn]; exact List.mem_append_right _ ho); exact this h5
          · have := h.late u h0 h5; omega
        have := (h.kept u hk).1
        rw [← hq, this]; omega
    · have := h.out y hy u hu (fun h3 => absurd h3 e) ho; omega
theorem Way.low0 (h : Way nx v s pre s1 X) : s1.low v ≤ s1.met := Nat.le_trans h.lowle (h.inv.le v)
theorem Way.opn_num (h : Way nx v s pre s1 X) {u : Nat} (hu : u ∈ s.opn) : s.num u ≠ 0 ∧ s1.num u = s.num u := by
  have h1 : s1.num u ≠ 0 := h.inv.opn u (by rw [h.opn]; exact List.mem_append_right _ hu)
  have hk : s.num u ≠ 0 := fun h0 => by
    have h3 := h.inv.dec
    rw [h.opn, List.pairwise_append] at h3
    have h4 := h3.2.2 v h.vin u hu
    have := h.numv
    have := h.late u h0 h1
    omega
  exact ⟨hk, (h.kept u hk).1⟩
/-- An arc to a node that was not met, and is visited. -/
theorem Way.visit (h : Way nx v s pre s1 X) (ht : t ∈ nx v) (h0 : s1.num t = 0) (k : Vis nx t s1 s2 X2) : Way nx v s (pre ++ [t]) (lowS s2 v (min (s2.low v) (s2.low t))) (X2 ++ X) := by
  have hv1 : s1.num v ≠ 0 := by rw [h.numv]; omega
  have kv := k.kept v hv1
  have hvm := h.inv.le v
  have hl : (lowS s2 v (min (s2.low v) (s2.low t))).low v = min (s1.low v) (s2.low t) := by rw [← kv.2]; exact put_at _ _ _
  have hkp : ∀ u, s.num u ≠ 0 → s1.num u ≠ 0 := fun u hu => by rw [(h.kept u hu).1]; exact hu
  have hnew : ∀ y ∈ X2, s.num y = 0 := fun y hy => by
    by_cases e : s.num y = 0
    · exact e
    · exact absurd (k.new y hy) (hkp y e)
  have hlate2 : ∀ u, s1.num u = 0 → s2.num u ≠ 0 → s1.num v < s2.num u := fun u h1 h2 => by have := k.late u h1 h2; omega
  have hX1 : ∀ y ∈ X, s1.num y ≠ 0 := fun y hy => h.inv.opn y (by rw [h.opn]; exact List.mem_append_left _ hy)
  have hlow : X2 = [] → min (s1.low v) (s2.low t) = s1.low v := fun e => by
    have := k.shut e
    have := k.late t h0 k.there
    have := h.low0
    omega
  refine ⟨⟨k.inv.le, k.inv.opn, k.inv.dec, k.inv.closed, k.inv.lab⟩, ?_, fun u hu => ?_, Nat.le_trans h.met k.met, by show s2.num v = _; rw [kv.1]; exact h.numv, h.was, fun u hu hu' => ?_, fun u hu => ?_, fun u hne hu hu' a ha => ?_, fun u hu => ?_, List.mem_append_right _ h.vin, fun y hy => ?_, ?_, ?_, fun y hy hne => ?_, fun y hy u hu hp ho => ?_⟩
  · show s2.opn = _; rw [k.opn, h.opn, List.append_assoc]
  · have hne : u ≠ v := fun e => hu (e ▸ h.was)
    have h1 := h.kept u hu
    have h2 := k.kept u (hkp u hu)
    exact ⟨h2.1.trans h1.1, by simp only [lowS]; rw [put_ne _ _ hne]; exact h2.2.trans h1.2⟩
  · show s.met < s2.num u
    have hu2 : s2.num u ≠ 0 := hu'
    by_cases e : s1.num u = 0
    · have := k.late u e hu2; have := h.met; omega
    · rw [(k.kept u e).1]; exact h.late u hu e
  · rcases List.mem_append.1 hu with hu | hu
    · exact hnew u hu
    · exact h.new u hu
  · have hu2 : s2.num u ≠ 0 := hu'
    show s2.num a ≠ 0
    by_cases e : s1.num u = 0
    · exact k.succ u e hu2 a ha
    · have := h.succ u hne hu e a ha
      rw [(k.kept a this).1]; exact this
  · show s2.num u ≠ 0
    rcases List.mem_append.1 hu with hu | hu
    · have := h.succv u hu
      rw [(k.kept u this).1]; exact this
    · rw [List.mem_singleton] at hu; rw [hu]; exact k.there
  · rcases List.mem_append.1 hy with hy | hy
    · exact .head ht ((k.some (fun e => by rw [e] at hy; cases hy)).2.1 y hy)
    · exact h.rch y hy
  · rw [hl]; show _ ≤ s2.num v; rw [kv.1]; have := h.lowle; omega
  · rw [hl]
    obtain ⟨z, hz, hr, he⟩ := h.lowat
    have hz1 : s1.num z ≠ 0 := h.inv.opn z hz
    have case1 : ∃ z ∈ s2.opn, Rch nx v z ∧ s2.num z = s1.low v := ⟨z, by rw [k.opn]; exact List.mem_append_right _ hz, hr, by rw [(k.kept z hz1).1]; exact he⟩
    by_cases e : X2 = []
    · rw [hlow e]; exact case1
    · rcases Nat.le_total (s1.low v) (s2.low t) with hle | hle
      · rw [Nat.min_eq_left hle]; exact case1
      · rw [Nat.min_eq_right hle]
        obtain ⟨_, _, ⟨z2, hz2, hr2, he2⟩, _⟩ := k.some e
        exact ⟨z2, by show z2 ∈ s2.opn; rw [k.opn]; exact List.mem_append_right _ hz2, .head ht hr2, by show s2.num z2 = _; rw [(k.kept z2 (h.inv.opn z2 hz2)).1]; exact he2⟩
  · rcases List.mem_append.1 hy with hy | hy
    · have e : X2 ≠ [] := fun e => by rw [e] at hy; cases hy
      obtain ⟨z, hz, hr⟩ := (k.some e).2.2.2.1 y hy
      have hz1 := h.inv.opn z hz
      refine ⟨z, by show z ∈ s2.opn; rw [k.opn]; exact List.mem_append_right _ hz, hr, ?_⟩
      show s2.num z < s2.num y
      rw [(k.kept z hz1).1]
      have hy2 : s2.num y ≠ 0 := k.inv.opn y (by rw [k.opn]; exact List.mem_append_left _ hy)
      have := k.late y (k.new y hy) hy2
      have := h.inv.le z
      omega
    · obtain ⟨z, hz, hr, hlt⟩ := h.down y hy hne
      refine ⟨z, by show z ∈ s2.opn; rw [k.opn]; exact List.mem_append_right _ hz, hr, ?_⟩
      show s2.num z < s2.num y
      rw [(k.kept z (h.inv.opn z hz)).1, (k.kept y (hX1 y hy)).1]
      exact hlt
  · rw [hl]
    have hon := h.opn_num ho
    have ho1 : u ∈ s1.opn := by rw [h.opn]; exact List.mem_append_right _ ho
    rcases List.mem_append.1 hy with hy | hy
    · have e : X2 ≠ [] := fun e => by rw [e] at hy; cases hy
      have := (k.some e).2.2.2.2 y hy u hu ho1
      rw [hon.2] at this
      omega
    · by_cases e : y = v
      · rcases List.mem_append.1 (hp e) with hq | hq
        · have := h.out y hy u hu (fun _ => hq) ho; omega
        · rw [List.mem_singleton] at hq
          exact absurd h0 (by rw [← hq, hon.2]; exact hon.1)
      · have := h.out y hy u hu (fun h3 => absurd h3 e) ho; omega
/-- Where one comes out, whatever is open in X reaches v, or what was open ahead. -/
theorem Way.sink (h : Way nx v s pre s1 X) : ∀ (m : Nat) (y : Nat), y ∈ X → s1.num y ≤ m → Rch nx y v ∨ ∃ z ∈ s.opn, Rch nx y z := by
  intro m
  induction m with
  | zero => intro y hy hm; exact absurd (h.inv.opn y (by rw [h.opn]; exact List.mem_append_left _ hy)) (by omega)
  | succ m ih =>
    intro y hy hm
    by_cases e : y = v
    · exact .inl (e ▸ .refl)
    · obtain ⟨z, hz, hr, hlt⟩ := h.down y hy e
      rw [h.opn] at hz
      rcases List.mem_append.1 hz with hz | hz
      · rcases ih z hz (by omega) with h1 | ⟨u, hu, h1⟩
        · exact .inl (hr.trans h1)
        · exact .inr ⟨u, hu, hr.trans h1⟩
      · exact .inr ⟨z, hz, hr⟩
/-- A visit whose node is not the first one met of its component. -/
theorem Way.open_ (h : Way nx v s (nx v) s1 X) (hl : s1.low v ≠ s1.num v) : Vis nx v s s1 X := by
  have hne : X ≠ [] := fun e => by have := h.vin; rw [e] at this; cases this
  obtain ⟨z, hz, hr, he⟩ := h.lowat
  have hzs : z ∈ s.opn := by
    rw [h.opn] at hz
    rcases List.mem_append.1 hz with hz | hz
    · exfalso
      have h1 := h.inv.opn z (by rw [h.opn]; exact List.mem_append_left _ hz)
      have h2 := h.late z (h.new z hz) h1
      have := h.lowle
      have := h.numv
      omega
    · exact hz
  have hall : ∀ y ∈ X, ∃ z ∈ s.opn, Rch nx y z := fun y hy => by
    rcases h.sink _ y hy (Nat.le_refl _) with h1 | h1
    · exact ⟨z, hzs, h1.trans hr⟩
    · exact h1
  refine ⟨h.inv, h.opn, h.kept, by have := h.met; omega, h.late, h.new, fun u hu hu' a ha => ?_, by rw [h.numv]; omega, fun e => absurd e hne, fun _ => ⟨h.vin, h.rch, ⟨z, hzs, hr, by rw [← (h.opn_num hzs).2]; exact he⟩, hall, fun y hy u hu ho => h.out y hy u hu (fun e => e ▸ hu) ho⟩⟩
  by_cases e : u = v
  · exact h.succv a (e ▸ ha)
  · exact h.succ u e hu hu' a ha
def minL : List Nat → Nat
  | [] => 0
  | [a] => a
  | a :: b :: l => min a (minL (b :: l))
theorem minL_mem : ∀ (l : List Nat), l ≠ [] → minL l ∈ l
  | [], h => absurd rfl h
  | [a], _ => by simp [minL]
  | a :: b :: l, _ => by
    have := minL_mem (b :: l) (by simp)
    unfold minL
    rcases Nat.le_total a (minL (b :: l)) with h | h
    · rw [Nat.min_eq_left h]; simp
    · rw [Nat.min_eq_right h]; exact List.mem_cons_of_mem _ this
theorem minL_le : ∀ (l : List Nat) (x : Nat), x ∈ l → minL l ≤ x
  | [], _, h => by cases h
  | [a], x, h => by simp at h; simp [minL, h]
  | a :: b :: l, x, h => by
    unfold minL
    rcases List.mem_cons.1 h with rfl | h
    · exact Nat.min_le_left _ _
    · exact Nat.le_trans (Nat.min_le_right _ _) (minL_le (b :: l) x h)
def shutS (s : St) (o X : List Nat) : St := { s with opn := o, lab := fun u => if u ∈ X then minL X else s.lab u }
/-- A visit whose node is. -/
theorem Way.close (h : Way nx v s (nx v) s1 X) (hs : Inv nx s) (hl : s1.low v = s1.num v) : Vis nx v s (shutS s1 s.opn X) [] := by
  have hne : X ≠ [] := fun e => by have := h.vin; rw [e] at this; cases this
  have hdec := h.inv.dec
  rw [h.opn, List.pairwise_append] at hdec
  have hsucc : ∀ u, s.num u = 0 → s1.num u ≠ 0 → ∀ a ∈ nx u, s1.num a ≠ 0 := fun u hu hu' a ha => by
    by_cases e : u = v
    · exact h.succv a (e ▸ ha)
    · exact h.succ u e hu hu' a ha
  have hX1 : ∀ y ∈ X, s1.num y ≠ 0 := fun y hy => h.inv.opn y (by rw [h.opn]; exact List.mem_append_left _ hy)
  have hout : ∀ y ∈ X, ∀ u ∈ nx y, u ∉ s.opn := fun y hy u hu ho => by
    have h1 := h.out y hy u hu (fun e => e ▸ hu) ho
    have h2 := hs.le u
    have := h.numv
    omega
  -- what is settled behind
  have hset : ∀ u, s1.num u ≠ 0 → u ∉ s.opn → ∀ a ∈ nx u, s1.num a ≠ 0 ∧ a ∉ s.opn := fun u hu ho a ha => by
    by_cases hx : u ∈ X
    · exact ⟨hsucc u (h.new u hx) hu a ha, hout u hx a ha⟩
    · have := h.inv.closed u hu (by rw [h.opn, List.mem_append]; exact fun e => e.elim hx ho) a ha
      exact ⟨this.1, fun h3 => this.2 (by rw [h.opn]; exact List.mem_append_right _ h3)⟩
  have hback : ∀ y ∈ X, Rch nx y v := fun y hy => by
    rcases h.sink _ y hy (Nat.le_refl _) with h1 | ⟨z, hz, h1⟩
    · exact h1
    · exfalso
      have := Rch.stays (P := fun u => s1.num u ≠ 0 ∧ u ∉ s.opn) (fun a ha b hb => hset a ha.1 ha.2 b hb) h1 ⟨hX1 y hy, fun ho => by
        have := h.new y hy; exact (h.opn_num ho).1 this⟩
      exact this.2 hz
  have hmut : ∀ y ∈ X, ∀ z, Mut nx y z ↔ z ∈ X := fun y hy z => by
    constructor
    · rintro ⟨h1, h2⟩
      have hz := Rch.stays (P := fun u => s1.num u ≠ 0 ∧ u ∉ s.opn) (fun a ha b hb => hset a ha.1 ha.2 b hb) h1 ⟨hX1 y hy, fun ho => (h.opn_num ho).1 (h.new y hy)⟩
      by_cases hx : z ∈ X
      · exact hx
      · exfalso
        have := Rch.stays (P := fun u => s1.num u ≠ 0 ∧ u ∉ s1.opn) (fun a ha b hb => h.inv.closed a ha.1 ha.2 b hb) h2 ⟨hz.1, by rw [h.opn, List.mem_append]; exact fun e => e.elim hx hz.2⟩
        exact this.2 (by rw [h.opn]; exact List.mem_append_left _ hy)
    · intro hz
      exact ⟨(hback y hy).trans (h.rch z hz), (hback z hz).trans (h.rch y hy)⟩
  refine ⟨⟨h.inv.le, fun u hu => h.inv.opn u (by rw [h.opn]; exact List.mem_append_right _ hu), hdec.2.1, hset, fun u hu ho => ?_⟩, rfl, h.kept, by have := h.met; show s.met ≤ s1.met; omega, h.late, (fun u hu => by cases hu), hsucc, by show s1.num v ≠ 0; rw [h.numv]; omega, fun _ => hl, fun e => absurd rfl e⟩
  by_cases hx : u ∈ X
  · simp only [shutS, if_pos hx]
    exact ⟨(hmut u hx _).2 (minL_mem X hne), fun z hz => minL_le X z ((hmut u hx z).1 hz)⟩
  · simp only [shutS, if_neg hx]
    exact h.inv.lab u hu (by rw [h.opn, List.mem_append]; exact fun e => e.elim hx ho)
/-- With none open ahead, none is behind. -/
theorem Vis.none_ (h : Vis nx v s s1 X) (ho : s.opn = []) : X = [] := by
  by_cases e : X = []
  · exact e
  · obtain ⟨_, _, ⟨z, hz, _⟩, _⟩ := h.some e
    rw [ho] at hz; cases hz
end Go.Proofs.YtimgdkafennohaaGreatDoor.Sc
namespace Go.Proofs.YtimgdkafennohaaGreatDoor.Sc
/-- How many were not met. -/
def unmet (n : Nat) (num : Nat → Nat) : Nat := (List.range n).countP fun v => num v == 0
theorem unmet_succ (n : Nat) (num : Nat → Nat) : unmet (n + 1) num = unmet n num + (if num n = 0 then 1 else 0) := by
  unfold unmet
  rw [List.range_succ, List.countP_append]
  simp
theorem unmet_far {n v x : Nat} {num : Nat → Nat} (h : n ≤ v) : unmet n (put num v x) = unmet n num := by
  induction n with
  | zero => rfl
  | succ n ih =>
    rw [unmet_succ, unmet_succ, ih (by omega), put_ne _ _ (by omega)]
theorem unmet_put {n v x : Nat} {num : Nat → Nat} (hv : v < n) (h0 : num v = 0) (hx : x ≠ 0) : unmet n (put num v x) + 1 = unmet n num := by
  induction n with
  | zero => omega
  | succ n ih =>
    rw [unmet_succ, unmet_succ]
    by_cases e : v = n
    · subst e
      rw [unmet_far (Nat.le_refl _), put_at, if_neg hx, if_pos h0]
    · have := ih (by omega)
      rw [put_ne _ _ (Ne.symm e)]
      omega
theorem unmet_pos {n v : Nat} {num : Nat → Nat} (hv : v < n) (h0 : num v = 0) : 0 < unmet n num := by
  have := unmet_put (x := 1) hv h0 (by omega)
  omega
theorem unmet_all (n : Nat) : unmet n (fun _ => 0) = n := by
  induction n with
  | zero => rfl
  | succ n ih => rw [unmet_succ, ih]; simp
section
variable {nx : Nat → List Nat} {v : Nat} {s s1 : St} {X pre : List Nat}
theorem way_num (h : Way nx v s pre s1 X) {y : Nat} (hy : y ∈ X) : s1.num v ≤ s1.num y := by
  have h1 := h.inv.opn y (by rw [h.opn]; exact List.mem_append_left _ hy)
  have := h.late y (h.new y hy) h1
  rw [h.numv]
  omega
/-- The visit's own node is the last one of those that it opened. -/
theorem way_last (h : Way nx v s pre s1 X) : ∃ Y, X = Y ++ [v] ∧ v ∉ Y := by
  have hd := h.inv.dec
  rw [h.opn, List.pairwise_append] at hd
  have hd1 := hd.1
  have hv := h.vin
  have hn := fun y hy => way_num (y := y) h hy
  revert hd1 hv hn
  clear hd h
  induction X with
  | nil => intro _ hv; cases hv
  | cons a X ih =>
    intro hd hv hn
    rw [List.pairwise_cons] at hd
    rcases X with _ | ⟨b, X⟩
    · simp at hv
      exact ⟨[], by simp [hv], by simp⟩
    · have hva : v ≠ a := fun e => by
        subst e
        have h1 := hd.1 b List.mem_cons_self
        have h2 := hn b (List.mem_cons_of_mem _ List.mem_cons_self)
        omega
      have hv2 : v ∈ b :: X := (List.mem_cons.1 hv).resolve_left hva
      obtain ⟨Y, h1, h2⟩ := ih hd.2 hv2 (fun y hy => hn y (List.mem_cons_of_mem _ hy))
      exact ⟨a :: Y, by rw [h1]; rfl, by simp [hva, h2]⟩
/-- Those below are not of the visit. -/
theorem way_apart (h : Way nx v s pre s1 X) : v ∉ s.opn := fun hv => by
  have hd := h.inv.dec
  rw [h.opn, List.pairwise_append] at hd
  have := hd.2.2 v h.vin v hv
  omega
end
/-- Labels laid one by one. -/
def labs (l : Nat) (f : Nat → Nat) (X : List Nat) : Nat → Nat := X.foldl (fun f x => put f x l) f
theorem labs_eq (l : Nat) : ∀ (X : List Nat) (f : Nat → Nat), labs l f X = fun u => if u ∈ X then l else f u
  | [], f => by funext u; simp [labs]
  | x :: X, f => by
    have := labs_eq l X (put f x l)
    unfold labs at this ⊢
    rw [List.foldl_cons, this]
    funext u
    by_cases h : u ∈ X
    · simp [h]
    · by_cases e : u = x
      · simp [e, put]
      · simp [h, e, put]
theorem labs_snoc (l : Nat) (f : Nat → Nat) (X : List Nat) (x : Nat) : labs l f (X ++ [x]) = put (labs l f X) x l := by
  unfold labs
  rw [List.foldl_append]
  rfl
end Go.Proofs.YtimgdkafennohaaGreatDoor.Sc
namespace Go.Proofs.YtimgdkafennohaaGreatDoor.Rf
/-! numbers in order, each once -/
abbrev Rises (l : List Int) : Prop := l.Pairwise (· < ·)
theorem rises_ext : ∀ {l m : List Int}, Rises l → Rises m → (∀ x, x ∈ l ↔ x ∈ m) → l = m
  | [], [], _, _, _ => rfl
  | [], y :: m, _, _, h => by have := (h y).2 List.mem_cons_self; cases this
  | x :: l, [], _, _, h => by have := (h x).1 List.mem_cons_self; cases this
  | x :: l, y :: m, hl, hm, h => by
    obtain ⟨hl1, hl2⟩ := List.pairwise_cons.1 hl
    obtain ⟨hm1, hm2⟩ := List.pairwise_cons.1 hm
    have hxy : x = y := by
      rcases List.mem_cons.1 ((h x).1 List.mem_cons_self) with e | e
      · exact e
      · rcases List.mem_cons.1 ((h y).2 List.mem_cons_self) with e' | e'
        · exact e'.symm
        · have := hl1 y e'
          have := hm1 x e
          omega
    subst hxy
    rw [rises_ext hl2 hm2 fun z => ?_]
    constructor
    · intro hz
      rcases List.mem_cons.1 ((h z).1 (List.mem_cons_of_mem _ hz)) with e | e
      · have := hl1 z hz; omega
      · exact e
    · intro hz
      rcases List.mem_cons.1 ((h z).2 (List.mem_cons_of_mem _ hz)) with e | e
      · have := hm1 z hz; omega
      · exact e
/-- A list with one more, put ahead of the first that is not less. -/
def putF (n : Int) : List Int → List Int
  | [] => [n]
  | x :: l => if n ≤ x then n :: (x :: l).filter (fun y => y != n) else x :: putF n l
theorem mem_putF (n y : Int) : ∀ l, y ∈ putF n l ↔ y = n ∨ y ∈ l
  | [] => by simp [putF]
  | x :: l => by
    unfold putF
    split
    · simp only [List.mem_cons, List.mem_filter, bne_iff_ne, ne_eq]
      constructor
      · rintro (h | ⟨h, _⟩)
        · exact .inl h
        · exact .inr h
      · rintro (h | h)
        · exact .inl h
        · by_cases e : y = n
          · exact .inl e
          · exact .inr ⟨h, e⟩
    · rw [List.mem_cons, mem_putF n y l, List.mem_cons]
      constructor
      · rintro (h | h | h)
        · exact .inr (.inl h)
        · exact .inl h
        · exact .inr (.inr h)
      · rintro (h | h | h)
        · exact .inr (.inl h)
        · exact .inl h
        · exact .inr (.inr h)
theorem rises_putF (n : Int) : ∀ {l : List Int}, Rises l → Rises (putF n l)
  | [], _ => by simp [putF]
  | x :: l, h => by
    obtain ⟨h1, h2⟩ := List.pairwise_cons.1 h
    unfold putF
    split
    · rename_i hn
      refine List.pairwise_cons.2 ⟨fun y hy => ?_, h.filter _⟩
      rw [List.mem_filter] at hy
      obtain ⟨hy1, hy2⟩ := hy
      simp only [bne_iff_ne, ne_eq] at hy2
      rcases List.mem_cons.1 hy1 with e | e
      · omega
      · have := h1 y e; omega
    · rename_i hn
      refine List.pairwise_cons.2 ⟨fun y hy => ?_, rises_putF n h2⟩
      rcases (mem_putF n y l).1 hy with e | e
      · omega
      · exact h1 y e
theorem putF_len (n : Int) : ∀ l, (putF n l).length ≤ l.length + 1
  | [] => by simp [putF]
  | x :: l => by
    unfold putF
    split
    · have := List.length_filter_le (fun y => y != n) (x :: l)
      simp only [List.length_cons] at this ⊢
      omega
    · have := putF_len n l
      simp only [List.length_cons]
      omega
/-- What is still to come: n was put, or not. -/
def goF (n : Int) (b : Bool) (l : List Int) : List Int := if b then l.filter (fun y => y != n) else putF n l
theorem goF_lt {n x : Int} {l : List Int} (h : x < n) : goF n false (x :: l) = x :: goF n false l := by
  show putF n (x :: l) = x :: putF n l
  rw [putF, if_neg (by omega)]
theorem goF_eq (n : Int) (l : List Int) : goF n false (n :: l) = n :: goF n true l := by
  show putF n (n :: l) = n :: l.filter _
  rw [putF, if_pos (Int.le_refl _)]
  simp
theorem goF_gt {n x : Int} {l : List Int} (h : n < x) : goF n false (x :: l) = n :: x :: goF n true l := by
  show putF n (x :: l) = n :: x :: l.filter _
  rw [putF, if_pos (by omega), List.filter_cons_of_pos (by simp; omega)]
theorem goF_skip (n : Int) (l : List Int) : goF n true (n :: l) = goF n true l := by simp [goF]
theorem goF_keep {n x : Int} {l : List Int} (h : x ≠ n) : goF n true (x :: l) = x :: goF n true l := by simp [goF, h]
/-- The keys, in order, each once. -/
def keysL (ks : List Int) : List Int := ks.foldl (fun acc k => putF k acc) []
theorem keysL_snoc (ks : List Int) (k : Int) : keysL (ks ++ [k]) = putF k (keysL ks) := by unfold keysL; rw [List.foldl_append]; rfl
theorem fold_rises : ∀ (ks acc : List Int), Rises acc → Rises (ks.foldl (fun acc k => putF k acc) acc) ∧ ∀ y, y ∈ ks.foldl (fun acc k => putF k acc) acc ↔ y ∈ acc ∨ y ∈ ks
  | [], acc, h => ⟨h, by simp⟩
  | k :: ks, acc, h => by
    obtain ⟨h1, h2⟩ := fold_rises ks (putF k acc) (rises_putF k h)
    refine ⟨h1, fun y => ?_⟩
    rw [List.foldl_cons, h2, mem_putF, List.mem_cons]
    constructor
    · rintro ((h | h) | h)
      · exact .inr (.inl h)
      · exact .inl h
      · exact .inr (.inr h)
    · rintro (h | h | h)
      · exact .inl (.inr h)
      · exact .inl (.inl h)
      · exact .inr h
theorem keysL_rises (ks : List Int) : Rises (keysL ks) := (fold_rises ks [] (by simp)).1
theorem mem_keysL {ks : List Int} {y : Int} : y ∈ keysL ks ↔ y ∈ ks := by
  have := (fold_rises ks [] (by simp)).2 y
  simpa [keysL] using this
theorem keysL_len (ks : List Int) : (keysL ks).length ≤ ks.length := by
  have : ∀ (ks acc : List Int), (ks.foldl (fun acc k => putF k acc) acc).length ≤ acc.length + ks.length := by
    intro ks
    induction ks with
    | nil => intro acc; simp
    | cons k ks ih =>
      intro acc
      have h1 := ih (putF k acc)
      have h2 := putF_len k acc
      simp only [List.foldl_cons, List.length_cons]
      omega
  have := this ks []
  simpa [keysL] using this
theorem take_snoc {α : Type} (l : List α) (d : α) (k : Nat) (h : k < l.length) : l.take (k + 1) = l.take k ++ [l.getD k d] := by
  rw [List.take_succ_eq_append_getElem h, List.getD_eq_getElem?_getD, List.getElem?_eq_getElem h]; rfl
theorem drop_cons {α : Type} (l : List α) (d : α) (k : Nat) (h : k < l.length) : l.drop k = l.getD k d :: l.drop (k + 1) := by
  rw [List.drop_eq_getElem_cons h, List.getD_eq_getElem?_getD, List.getElem?_eq_getElem h]; rfl
end Go.Proofs.YtimgdkafennohaaGreatDoor.Rf
