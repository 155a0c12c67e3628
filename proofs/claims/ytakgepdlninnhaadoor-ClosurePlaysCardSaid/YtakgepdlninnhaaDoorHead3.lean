/-
  Contracts of small functions, several texts laid into one. Not a statement of the seat.
-/
import Derived.WalkKit
namespace Go.Proofs.YtakgepdlninnhaaDoor.Sc
inductive Rch (nx : Nat → List Nat) (a : Nat) : Nat → Prop
  | refl : Rch nx a a
  | tail {b c : Nat} : Rch nx a b → c ∈ nx b → Rch nx a c
theorem Rch.trans {nx : Nat → List Nat} {a b c : Nat} (h : Rch nx a b) (k : Rch nx b c) : Rch nx a c := by
  induction k with
  | refl => exact h
  | tail _ e ih => exact ih.tail e
theorem Rch.arc {nx : Nat → List Nat} {a b : Nat} (h : b ∈ nx a) : Rch nx a b := Rch.refl.tail h
theorem Rch.head {nx : Nat → List Nat} {a b c : Nat} (h : b ∈ nx a) (k : Rch nx b c) : Rch nx a c := (Rch.arc h).trans k
/-- What is closed under arcs is not left. -/
theorem Rch.stays {nx : Nat → List Nat} {P : Nat → Prop} (hP : ∀ a, P a → ∀ b ∈ nx a, P b) {a b : Nat} (h : Rch nx a b) (ha : P a) : P b := by
  induction h with
  | refl => exact ha
  | tail _ e ih => exact hP _ ih _ e
structure St where
  met : Nat
  num : Nat → Nat
  low : Nat → Nat
  opn : List Nat
  lab : Nat → Nat
def put (f : Nat → Nat) (i v : Nat) : Nat → Nat := fun j => if j = i then v else f j
theorem put_at (f : Nat → Nat) (i v : Nat) : put f i v i = v := by simp [put]
theorem put_ne (f : Nat → Nat) {i j : Nat} (v : Nat) (h : j ≠ i) : put f i v j = f j := by simp [put, h]
def Mut (nx : Nat → List Nat) (a b : Nat) : Prop := Rch nx a b ∧ Rch nx b a
def IsLab (nx : Nat → List Nat) (v l : Nat) : Prop := Mut nx v l ∧ ∀ z, Mut nx v z → l ≤ z
structure Inv (nx : Nat → List Nat) (s : St) : Prop where
  le : ∀ v, s.num v ≤ s.met
  opn : ∀ v ∈ s.opn, s.num v ≠ 0
  dec : s.opn.Pairwise (fun a b => s.num b < s.num a)
  closed : ∀ v, s.num v ≠ 0 → v ∉ s.opn → ∀ t ∈ nx v, s.num t ≠ 0 ∧ t ∉ s.opn
  lab : ∀ v, s.num v ≠ 0 → v ∉ s.opn → IsLab nx v (s.lab v)
structure Vis (nx : Nat → List Nat) (v : Nat) (s s' : St) (X : List Nat) : Prop where
  inv : Inv nx s'
  opn : s'.opn = X ++ s.opn
  kept : ∀ u, s.num u ≠ 0 → s'.num u = s.num u ∧ s'.low u = s.low u
  met : s.met ≤ s'.met
  late : ∀ u, s.num u = 0 → s'.num u ≠ 0 → s.met < s'.num u
  new : ∀ u ∈ X, s.num u = 0
  succ : ∀ u, s.num u = 0 → s'.num u ≠ 0 → ∀ t ∈ nx u, s'.num t ≠ 0
  there : s'.num v ≠ 0
  shut : X = [] → s'.low v = s'.num v
  some : X ≠ [] → v ∈ X ∧ (∀ y ∈ X, Rch nx v y) ∧ (∃ z ∈ s.opn, Rch nx v z ∧ s.num z = s'.low v) ∧ (∀ y ∈ X, ∃ z ∈ s.opn, Rch nx y z) ∧ ∀ y ∈ X, ∀ t ∈ nx y, t ∈ s.opn → s'.low v ≤ s.num t
/-- Within a visit of v, behind the arcs of pre. -/
structure Way (nx : Nat → List Nat) (v : Nat) (s : St) (pre : List Nat) (s' : St) (X : List Nat) : Prop where
  inv : Inv nx s'
  opn : s'.opn = X ++ s.opn
  kept : ∀ u, s.num u ≠ 0 → s'.num u = s.num u ∧ s'.low u = s.low u
  met : s.met + 1 ≤ s'.met
  numv : s'.num v = s.met + 1
  was : s.num v = 0
  late : ∀ u, s.num u = 0 → s'.num u ≠ 0 → s.met < s'.num u
  new : ∀ u ∈ X, s.num u = 0
  succ : ∀ u, u ≠ v → s.num u = 0 → s'.num u ≠ 0 → ∀ t ∈ nx u, s'.num t ≠ 0
  succv : ∀ t ∈ pre, s'.num t ≠ 0
  vin : v ∈ X
  rch : ∀ y ∈ X, Rch nx v y
  lowle : s'.low v ≤ s'.num v
  lowat : ∃ z ∈ s'.opn, Rch nx v z ∧ s'.num z = s'.low v
  down : ∀ y ∈ X, y ≠ v → ∃ z ∈ s'.opn, Rch nx y z ∧ s'.num z < s'.num y
  out : ∀ y ∈ X, ∀ t ∈ nx y, (y = v → t ∈ pre) → t ∈ s.opn → s'.low v ≤ s.num t
variable {nx : Nat → List Nat} {v t : Nat} {s s1 s2 : St} {X X2 pre : List Nat}
def meetS (s : St) (v : Nat) : St := { met := s.met + 1, num := put s.num v (s.met + 1), low := put s.low v (s.met + 1), opn := v :: s.opn, lab := s.lab }
theorem Way.start (h : Inv nx s) (hv : s.num v = 0) : Way nx v s [] (meetS s v) [v] := by
  have hno : v ∉ s.opn := fun hm => h.opn v hm hv
  have hno' : ∀ u, u ∈ s.opn → u ≠ v := fun u hu e => by rw [e] at hu; exact hno hu
  have hne : ∀ u, s.num u ≠ 0 → u ≠ v := fun u hu e => hu (e ▸ hv)
  refine ⟨⟨fun u => ?_, fun u hu => ?_, ?_, fun u hu hn t ht => ?_, fun u hu hn => ?_⟩, rfl, fun u hu => ?_, Nat.le_refl _, put_at _ _ _, hv, fun u hu hu' => ?_, fun u hu => by simp at hu; rw [hu]; exact hv, fun u hne hu hu' => ?_, (fun t ht => by cases ht), by simp, fun y hy => by simp at hy; rw [hy]; exact .refl, by simp [meetS, put], ⟨v, by simp [meetS], .refl, by simp [meetS, put]⟩, fun y hy hn => by simp at hy; exact absurd hy hn, fun y hy t _ hp => by simp at hy; exact absurd (hp hy) (by simp)⟩
  · by_cases e : u = v
    · simp [meetS, put, e]
    · simp only [meetS]; rw [put_ne _ _ e]; have := h.le u; omega
  · simp only [meetS, List.mem_cons] at hu
    rcases hu with rfl | hu
    · simp [meetS, put]
    · simp only [meetS]; rw [put_ne _ _ (hno' u hu)]; exact h.opn u hu
  · simp only [meetS, List.pairwise_cons]
    refine ⟨fun u hu => ?_, h.dec.imp_of_mem fun {a b} ha hb hab => ?_⟩
    · rw [put_at, put_ne _ _ (hno' u hu)]; have := h.le u; omega
    · rw [put_ne _ _ (hno' a ha), put_ne _ _ (hno' b hb)]; exact hab
  · simp only [meetS, List.mem_cons, not_or] at hu hn ⊢
    rw [put_ne _ _ hn.1] at hu
    obtain ⟨h1, h2⟩ := h.closed u hu hn.2 t ht
    have := hne t h1
    rw [put_ne _ _ this]
    exact ⟨h1, this, h2⟩
  · simp only [meetS, List.mem_cons, not_or] at hu hn ⊢
    rw [put_ne _ _ hn.1] at hu
    exact h.lab u hu hn.2
  · simp only [meetS]
    rw [put_ne _ _ (hne u hu), put_ne _ _ (hne u hu)]
    exact ⟨rfl, rfl⟩
  · by_cases e : u = v
    · simp [meetS, put, e]
    · simp only [meetS] at hu'; rw [put_ne _ _ e] at hu'; exact absurd hu hu'
  · simp only [meetS] at hu'; rw [put_ne _ _ hne] at hu'; exact absurd hu hu'
/-- An arc to a node that is settled. -/
theorem Way.past (h : Way nx v s pre s1 X) (h1 : s1.num t ≠ 0) (h2 : t ∉ s1.opn) : Way nx v s (pre ++ [t]) s1 X := by
  refine { h with succv := fun u hu => ?_, out := fun y hy u hu hp ho => ?_ }
  · rcases List.mem_append.1 hu with hu | hu
    · exact h.succv u hu
    · rw [List.mem_singleton] at hu; rw [hu]; exact h1
  · refine h.out y hy u hu (fun e => ?_) ho
    rcases List.mem_append.1 (hp e) with hq | hq
    · exact hq
    · rw [List.mem_singleton] at hq
      exact absurd (by rw [h.opn, hq.symm]; exact List.mem_append_right _ ho) h2
def lowS (s : St) (v x : Nat) : St := { s with low := put s.low v x }
/-- An arc to a node that is open. -/
theorem Way.back (h : Way nx v s pre s1 X) (ht : t ∈ nx v) (h2 : t ∈ s1.opn) : Way nx v s (pre ++ [t]) (lowS s1 v (min (s1.low v) (s1.num t))) X := by
  have hl : (lowS s1 v (min (s1.low v) (s1.num t))).low v = min (s1.low v) (s1.num t) := put_at _ _ _
  refine ⟨⟨h.inv.le, h.inv.opn, h.inv.dec, h.inv.closed, h.inv.lab⟩, h.opn, fun u hu => ?_, h.met, h.numv, h.was, h.late, h.new, h.succ, fun u hu => ?_, h.vin, h.rch, ?_, ?_, h.down, fun y hy u hu hp ho => ?_⟩
  · have hne : u ≠ v := fun e => hu (e ▸ h.was)
    exact ⟨(h.kept u hu).1, by simp only [lowS]; rw [put_ne _ _ hne]; exact (h.kept u hu).2⟩
  · rcases List.mem_append.1 hu with hu | hu
    · exact h.succv u hu
    · rw [List.mem_singleton] at hu; rw [hu]; exact h.inv.opn t h2
  · rw [hl]; have := h.lowle; show min _ _ ≤ s1.num v; omega
  · rw [hl]
    obtain ⟨z, hz, hr, he⟩ := h.lowat
    rcases Nat.le_total (s1.low v) (s1.num t) with hle | hle
    · exact ⟨z, hz, hr, by rw [Nat.min_eq_left hle]; exact he⟩
    · exact ⟨t, h2, .arc ht, by rw [Nat.min_eq_right hle]; rfl⟩
  · rw [hl]
    by_cases e : y = v
    · rcases List.mem_append.1 (hp e) with hq | hq
      · have := h.out y hy u hu (fun _ => hq) ho; omega
      · rw [List.mem_singleton] at hq
        have hk : s.num u ≠ 0 := fun h0 => by
          have := h.inv.opn t h2
          have h3 := h.inv.dec
          rw [h.opn, List.pairwise_append] at h3
          have h4 := h3.2.2 v h.vin u ho
          have := h.numv
          by_cases h5 : s1.num u = 0
          · have := h.inv.opn u (by rw [h.opn]; exact List.mem_append_right _ ho); exact this h5
          · have := h.late u h0 h5; omega
        have := (h.kept u hk).1
        rw [← hq, this]; omega
    · have := h.out y hy u hu (fun h3 => absurd h3 e) ho; omega
theorem Way.low0 (h : Way nx v s pre s1 X) : s1.low v ≤ s1.met := Nat.le_trans h.lowle (h.inv.le v)
theorem Way.opn_num (h : Way nx v s pre s1 X) {u : Nat} (hu : u ∈ s.opn) : s.num u ≠ 0 ∧ s1.num u = s.num u := by
  have h1 : s1.num u ≠ 0 := h.inv.opn u (by rw [h.opn]; exact List.mem_append_right _ hu)
  have hk : s.num u ≠ 0 := fun h0 => by
    have h3 := h.inv.dec
    rw [h.opn, List.pairwise_append] at h3
    have h4 := h3.2.2 v h.vin u hu
    have := h.numv
    have := h.late u h0 h1
    omega
  exact ⟨hk, (h.kept u hk).1⟩
/-- An arc to a node that was not met, and is visited. -/
theorem Way.visit (h : Way nx v s pre s1 X) (ht : t ∈ nx v) (h0 : s1.num t = 0) (k : Vis nx t s1 s2 X2) : Way nx v s (pre ++ [t]) (lowS s2 v (min (s2.low v) (s2.low t))) (X2 ++ X) := by
  have hv1 : s1.num v ≠ 0 := by rw [h.numv]; omega
  have kv := k.kept v hv1
  have hvm := h.inv.le v
  have hl : (lowS s2 v (min (s2.low v) (s2.low t))).low v = min (s1.low v) (s2.low t) := by rw [← kv.2]; exact put_at _ _ _
  have hkp : ∀ u, s.num u ≠ 0 → s1.num u ≠ 0 := fun u hu => by rw [(h.kept u hu).1]; exact hu
  have hnew : ∀ y ∈ X2, s.num y = 0 := fun y hy => by
    by_cases e : s.num y = 0
    · exact e
    · exact absurd (k.new y hy) (hkp y e)
  have hlate2 : ∀ u, s1.num u = 0 → s2.num u ≠ 0 → s1.num v < s2.num u := fun u h1 h2 => by have := k.late u h1 h2; omega
  have hX1 : ∀ y ∈ X, s1.num y ≠ 0 := fun y hy => h.inv.opn y (by rw [h.opn]; exact List.mem_append_left _ hy)
  have hlow : X2 = [] → min (s1.low v) (s2.low t) = s1.low v := fun e => by
    have := k.shut e
    have := k.late t h0 k.there
    have := h.low0
    omega
  refine ⟨⟨k.inv.le, k.inv.opn, k.inv.dec, k.inv.closed, k.inv.lab⟩, ?_, fun u hu => ?_, Nat.le_trans h.met k.met, by show s2.num v = _; rw [kv.1]; exact h.numv, h.was, fun u hu hu' => ?_, fun u hu => ?_, fun u hne hu hu' a ha => ?_, fun u hu => ?_, List.mem_append_right _ h.vin, fun y hy => ?_, ?_, ?_, fun y hy hne => ?_, fun y hy u hu hp ho => ?_⟩
  · show s2.opn = _; rw [k.opn, h.opn, List.append_assoc]
  · have hne : u ≠ v := fun e => hu (e ▸ h.was)
    have h1 := h.kept u hu
    have h2 := k.kept u (hkp u hu)
    exact ⟨h2.1.trans h1.1, by simp only [lowS]; rw [put_ne _ _ hne]; exact h2.2.trans h1.2⟩
  · show s.met < s2.num u
    have hu2 : s2.num u ≠ 0 := hu'
    by_cases e : s1.num u = 0
    · have := k.late u e hu2; have := h.met; omega
    · rw [(k.kept u e).1]; exact h.late u hu e
  · rcases List.mem_append.1 hu with hu | hu
    · exact hnew u hu
    · exact h.new u hu
  · have hu2 : s2.num u ≠ 0 := hu'
    show s2.num a ≠ 0
    by_cases e : s1.num u = 0
    · exact k.succ u e hu2 a ha
    · have := h.succ u hne hu e a ha
      rw [(k.kept a this).1]; exact this
  · show s2.num u ≠ 0
    rcases List.mem_append.1 hu with hu | hu
    · have := h.succv u hu
      rw [(k.kept u this).1]; exact this
    · rw [List.mem_singleton] at hu; rw [hu]; exact k.there
  · rcases List.mem_append.1 hy with hy | hy
    · exact .head ht ((k.some (fun e => by rw [e] at hy; cases hy)).2.1 y hy)
    · exact h.rch y hy
  · rw [hl]; show _ ≤ s2.num v; rw [kv.1]; have := h.lowle; omega
  · rw [hl]
    obtain ⟨z, hz, hr, he⟩ := h.lowat
    have hz1 : s1.num z ≠ 0 := h.inv.opn z hz
    have case1 : ∃ z ∈ s2.opn, Rch nx v z ∧ s2.num z = s1.low v := ⟨z, by rw [k.opn]; exact List.mem_append_right _ hz, hr, by rw [(k.kept z hz1).1]; exact he⟩
    by_cases e : X2 = []
    · rw [hlow e]; exact case1
    · rcases Nat.le_total (s1.low v) (s2.low t) with hle | hle
      · rw [Nat.min_eq_left hle]; exact case1
      · rw [Nat.min_eq_right hle]
        obtain ⟨_, _, ⟨z2, hz2, hr2, he2⟩, _⟩ := k.some e
        exact ⟨z2, by show z2 ∈ s2.opn; rw [k.opn]; exact List.mem_append_right _ hz2, .head ht hr2, by show s2.num z2 = _; rw [(k.kept z2 (h.inv.opn z2 hz2)).1]; exact he2⟩
  · rcases List.mem_append.1 hy with hy | hy
    · have e : X2 ≠ [] := fun e => by rw [e] at hy; cases hy
      obtain ⟨z, hz, hr⟩ := (k.some e).2.2.2.1 y hy
      have hz1 := h.inv.opn z hz
      refine ⟨z, by show z ∈ s2.opn; rw [k.opn]; exact List.mem_append_right _ hz, hr, ?_⟩
      show s2.num z < s2.num y
      rw [(k.kept z hz1).1]
      have hy2 : s2.num y ≠ 0 := k.inv.opn y (by rw [k.opn]; exact List.mem_append_left _ hy)
      have := k.late y (k.new y hy) hy2
      have := h.inv.le z
      omega
    · obtain ⟨z, hz, hr, hlt⟩ := h.down y hy hne
      refine ⟨z, by show z ∈ s2.opn; rw [k.opn]; exact List.mem_append_right _ hz, hr, ?_⟩
      show s2.num z < s2.num y
      rw [(k.kept z (h.inv.opn z hz)).1, (k.kept y (hX1 y hy)).1]
      exact hlt
  · rw [hl]
    have hon := h.opn_num ho
    have ho1 : u ∈ s1.opn := by rw [h.opn]; exact List.mem_append_right _ ho
    rcases List.mem_append.1 hy with hy | hy
    · have e : X2 ≠ [] := fun e => by rw [e] at hy; cases hy
      have := (k.some e).2.2.2.2 y hy u hu ho1
      rw [hon.2] at this
      omega
    · by_cases e : y = v
      · rcases List.mem_append.1 (hp e) with hq | hq
        · have := h.out y hy u hu (fun _ => hq) ho; omega
        · rw [List.mem_singleton] at hq
          exact absurd h0 (by rw [← hq, hon.2]; exact hon.1)
      · have := h.out y hy u hu (fun h3 => absurd h3 e) ho; omega
/-- Where one comes out, whatever is open in X reaches v, or what was open ahead. -/
theorem Way.sink (h : Way nx v s pre s1 X) : ∀ (m : Nat) (y : Nat), y ∈ X → s1.num y ≤ m → Rch nx y v ∨ ∃ z ∈ s.opn, Rch nx y z := by
  intro m
  induction m with
  | zero => intro y hy hm; exact absurd (h.inv.opn y (by rw [h.opn]; exact List.mem_append_left _ hy)) (by omega)
  | succ m ih =>
    intro y hy hm
    by_cases e : y = v
    · exact .inl (e ▸ .refl)
    · obtain ⟨z, hz, hr, hlt⟩ := h.down y hy e
      rw [h.opn] at hz
      rcases List.mem_append.1 hz with hz | hz
      · rcases ih z hz (by omega) with h1 | ⟨u, hu, h1⟩
        · exact .inl (hr.trans h1)
        · exact .inr ⟨u, hu, hr.trans h1⟩
      · exact .inr ⟨z, hz, hr⟩
/-- A visit whose node is not the first one met of its component. -/
theorem Way.open_ (h : Way nx v s (nx v) s1 X) (hl : s1.low v ≠ s1.num v) : Vis nx v s s1 X := by
  have hne : X ≠ [] := fun e => by have := h.vin; rw [e] at this; cases this
  obtain ⟨z, hz, hr, he⟩ := h.lowat
  have hzs : z ∈ s.opn := by
    rw [h.opn] at hz
    rcases List.mem_append.1 hz with hz | hz
    · exfalso
      have h1 := h.inv.opn z (by rw [h.opn]; exact List.mem_append_left _ hz)
      have h2 := h.late z (h.new z hz) h1
      have := h.lowle
      have := h.numv
      omega
    · exact hz
  have hall : ∀ y ∈ X, ∃ z ∈ s.opn, Rch nx y z := fun y hy => by
    rcases h.sink _ y hy (Nat.le_refl _) with h1 | h1
    · exact ⟨z, hzs, h1.trans hr⟩
    · exact h1
  refine ⟨h.inv, h.opn, h.kept, by have := h.met; omega, h.late, h.new, fun u hu hu' a ha => ?_, by rw [h.numv]; omega, fun e => absurd e hne, fun _ => ⟨h.vin, h.rch, ⟨z, hzs, hr, by rw [← (h.opn_num hzs).2]; exact he⟩, hall, fun y hy u hu ho => h.out y hy u hu (fun e => e ▸ hu) ho⟩⟩
  by_cases e : u = v
  · exact h.succv a (e ▸ ha)
  · exact h.succ u e hu hu' a ha
def minL : List Nat → Nat
  | [] => 0
  | [a] => a
  | a :: b :: l => min a (minL (b :: l))
theorem minL_mem : ∀ (l : List Nat), l ≠ [] → minL l ∈ l
  | [], h => absurd rfl h
  | [a], _ => by simp [minL]
  | a :: b :: l, _ => by
    have := minL_mem (b :: l) (by simp)
    unfold minL
    rcases Nat.le_total a (minL (b :: l)) with h | h
    · rw [Nat.min_eq_left h]; simp
    · rw [Nat.min_eq_right h]; exact List.mem_cons_of_mem _ this
theorem minL_le : ∀ (l : List Nat) (x : Nat), x ∈ l → minL l ≤ x
  | [], _, h => by cases h
  | [a], x, h => by simp at h; simp [minL, h]
  | a :: b :: l, x, h => by
    unfold minL
    rcases List.mem_cons.1 h with rfl | h
    · exact Nat.min_le_left _ _
    · exact Nat.le_trans (Nat.min_le_right _ _) (minL_le (b :: l) x h)
def shutS (s : St) (o X : List Nat) : St := { s with opn := o, lab := fun u => if u ∈ X then minL X else s.lab u }
/-- A visit whose node is. -/
theorem Way.close (h : Way nx v s (nx v) s1 X) (hs : Inv nx s) (hl : s1.low v = s1.num v) : Vis nx v s (shutS s1 s.opn X) [] := by
  have hne : X ≠ [] := fun e => by have := h.vin; rw [e] at this; cases this
  have hdec := h.inv.dec
  rw [h.opn, List.pairwise_append] at hdec
  have hsucc : ∀ u, s.num u = 0 → s1.num u ≠ 0 → ∀ a ∈ nx u, s1.num a ≠ 0 := fun u hu hu' a ha => by
    by_cases e : u = v
    · exact h.succv a (e ▸ ha)
    · exact h.succ u e hu hu' a ha
  have hX1 : ∀ y ∈ X, s1.num y ≠ 0 := fun y hy => h.inv.opn y (by rw [h.opn]; exact List.mem_append_left _ hy)
  have hout : ∀ y ∈ X, ∀ u ∈ nx y, u ∉ s.opn := fun y hy u hu ho => by
    have h1 := h.out y hy u hu (fun e => e ▸ hu) ho
    have h2 := hs.le u
    have := h.numv
    omega
  -- what is settled behind
  have hset : ∀ u, s1.num u ≠ 0 → u ∉ s.opn → ∀ a ∈ nx u, s1.num a ≠ 0 ∧ a ∉ s.opn := fun u hu ho a ha => by
    by_cases hx : u ∈ X
    · exact ⟨hsucc u (h.new u hx) hu a ha, hout u hx a ha⟩
    · have := h.inv.closed u hu (by rw [h.opn, List.mem_append]; exact fun e => e.elim hx ho) a ha
      exact ⟨this.1, fun h3 => this.2 (by rw [h.opn]; exact List.mem_append_right _ h3)⟩
  have hback : ∀ y ∈ X, Rch nx y v := fun y hy => by
    rcases h.sink _ y hy (Nat.le_refl _) with h1 | ⟨z, hz, h1⟩
    · exact h1
    · exfalso
      have := Rch.stays (P := fun u => s1.num u ≠ 0 ∧ u ∉ s.opn) (fun a ha b hb => hset a ha.1 ha.2 b hb) h1 ⟨hX1 y hy, fun ho => by
        have := h.new y hy; exact (h.opn_num ho).1 this⟩
      exact this.2 hz
  have hmut : ∀ y ∈ X, ∀ z, Mut nx y z ↔ z ∈ X := fun y hy z => by
    constructor
    · rintro ⟨h1, h2⟩
      have hz := Rch.stays (P := fun u => s1.num u ≠ 0 ∧ u ∉ s.opn) (fun a ha b hb => hset a ha.1 ha.2 b hb) h1 ⟨hX1 y hy, fun ho => (h.opn_num ho).1 (h.new y hy)⟩
      by_cases hx : z ∈ X
      · exact hx
      · exfalso
        have := Rch.stays (P := fun u => s1.num u ≠ 0 ∧ u ∉ s1.opn) (fun a ha b hb => h.inv.closed a ha.1 ha.2 b hb) h2 ⟨hz.1, by rw [h.opn, List.mem_append]; exact fun e => e.elim hx hz.2⟩
        exact this.2 (by rw [h.opn]; exact List.mem_append_left _ hy)
    · intro hz
      exact ⟨(hback y hy).trans (h.rch z hz), (hback z hz).trans (h.rch y hy)⟩
  refine ⟨⟨h.inv.le, fun u hu => h.inv.opn u (by rw [h.opn]; exact List.mem_append_right _ hu), hdec.2.1, hset, fun u hu ho => ?_⟩, rfl, h.kept, by have := h.met; show s.met ≤ s1.met; omega, h.late, (fun u hu => by cases hu), hsucc, by show s1.num v ≠ 0; rw [h.numv]; omega, fun _ => hl, fun e => absurd rfl e⟩
  by_cases hx : u ∈ X
  · simp only [shutS, if_pos hx]
    exact ⟨(hmut u hx _).2 (minL_mem X hne), fun z hz => minL_le X z ((hmut u hx z).1 hz)⟩
  · simp only [shutS, if_neg hx]
    exact h.inv.lab u hu (by rw [h.opn, List.mem_append]; exact fun e => e.elim hx ho)
/-- With none open ahead, none is behind. -/
theorem Vis.none_ (h : Vis nx v s s1 X) (ho : s.opn = []) : X = [] := by
  by_cases e : X = []
  · exact e
  · obtain ⟨_, _, ⟨z, hz, _⟩, _⟩ := h.some e
    rw [ho] at hz; cases hz
end Go.Proofs.YtakgepdlninnhaaDoor.Sc
namespace Go.Proofs.YtakgepdlninnhaaDoor.Rf
/-! numbers in order, each once -/
abbrev Rises (l : List Int) : Prop := l.Pairwise (· < ·)
theorem rises_ext : ∀ {l m : List Int}, Rises l → Rises m → (∀ x, x ∈ l ↔ x ∈ m) → l = m
  | [], [], _, _, _ => rfl
  | [], y :: m, _, _, h => by have := (h y).2 List.mem_cons_self; cases this
  | x :: l, [], _, _, h => by have := (h x).1 List.mem_cons_self; cases this
  | x :: l, y :: m, hl, hm, h => by
    obtain ⟨hl1, hl2⟩ := List.pairwise_cons.1 hl
    obtain ⟨hm1, hm2⟩ := List.pairwise_cons.1 hm
    have hxy : x = y := by
      rcases List.mem_cons.1 ((h x).1 List.mem_cons_self) with e | e
      · exact e
      · rcases List.mem_cons.1 ((h y).2 List.mem_cons_self) with e' | e'
        · exact e'.symm
        · have := hl1 y e'
          have := hm1 x e
          omega
    subst hxy
    rw [rises_ext hl2 hm2 fun z => ?_]
    constructor
    · intro hz
      rcases List.mem_cons.1 ((h z).1 (List.mem_cons_of_mem _ hz)) with e | e
      · have := hl1 z hz; omega
      · exact e
    · intro hz
      rcases List.mem_cons.1 ((h z).2 (List.mem_cons_of_mem _ hz)) with e | e
      · have := hm1 z hz; omega
      · exact e
/-- A list with one more, put ahead of the first that is not less. -/
def putF (n : Int) : List Int → List Int
  | [] => [n]
  | x :: l => if n ≤ x then n :: (x :: l).filter (fun y => y != n) else x :: putF n l
theorem mem_putF (n y : Int) : ∀ l, y ∈ putF n l ↔ y = n ∨ y ∈ l
  | [] => by simp [putF]
  | x :: l => by
    unfold putF
    split
    · simp only [List.mem_cons, List.mem_filter, bne_iff_ne, ne_eq]
      constructor
      · rintro (h | ⟨h, _⟩)
        · exact .inl h
        · exact .inr h
      · rintro (h | h)
        · exact .inl h
        · by_cases e : y = n
          · exact .inl e
          · exact .inr ⟨h, e⟩
    · rw [List.mem_cons, mem_putF n y l, List.mem_cons]
      constructor
      · rintro (h | h | h)
        · exact .inr (.inl h)
        · exact .inl h
        · exact .inr (.inr h)
      · rintro (h | h | h)
        · exact .inr (.inl h)
        · exact .inl h
        · exact .inr (.inr h)
theorem rises_putF (n : Int) : ∀ {l : List Int}, Rises l → Rises (putF n l)
  | [], _ => by simp [putF]
  | x :: l, h => by
    obtain ⟨h1, h2⟩ := List.pairwise_cons.1 h
    unfold putF
    split
    · rename_i hn
      refine List.pairwise_cons.2 ⟨fun y hy => ?_, h.filter _⟩
      rw [List.mem_filter] at hy
      obtain ⟨hy1, hy2⟩ := hy
      simp only [bne_iff_ne, ne_eq] at hy2
      rcases List.mem_cons.1 hy1 with e | e
      · omega
      · have := h1 y e; omega
    · rename_i hn
      refine List.pairwise_cons.2 ⟨fun y hy => ?_, rises_putF n h2⟩
      rcases (mem_putF n y l).1 hy with e | e
      · omega
      · exact h1 y e
theorem putF_len (n : Int) : ∀ l, (putF n l).length ≤ l.length + 1
  | [] => by simp [putF]
  | x :: l => by
    unfold putF
    split
    · have := List.length_filter_le (fun y => y != n) (x :: l)
      simp only [List.length_cons] at this ⊢
      omega
    · have := putF_len n l
      simp only [List.length_cons]
      omega
/-- What is still to come: n was put, or not. -/
def goF (n : Int) (b : Bool) (l : List Int) : List Int := if b then l.filter (fun y => y != n) else putF n l
theorem goF_lt {n x : Int} {l : List Int} (h : x < n) : goF n false (x :: l) = x :: goF n false l := by
  show putF n (x :: l) = x :: putF n l
  rw [putF, if_neg (by omega)]
theorem goF_eq (n : Int) (l : List Int) : goF n false (n :: l) = n :: goF n true l := by
  show putF n (n :: l) = n :: l.filter _
  rw [putF, if_pos (Int.le_refl _)]
  simp
theorem goF_gt {n x : Int} {l : List Int} (h : n < x) : goF n false (x :: l) = n :: x :: goF n true l := by
  show putF n (x :: l) = n :: x :: l.filter _
  rw [putF, if_pos (by omega), List.filter_cons_of_pos (by simp; omega)]
theorem goF_skip (n : Int) (l : List Int) : goF n true (n :: l) = goF n true l := by simp [goF]
theorem goF_keep {n x : Int} {l : List Int} (h : x ≠ n) : goF n true (x :: l) = x :: goF n true l := by simp [goF, h]
/-- The keys, in order, each once. -/
def keysL (ks : List Int) : List Int := ks.foldl (fun acc k => putF k acc) []
theorem keysL_snoc (ks : List Int) (k : Int) : keysL (ks ++ [k]) = putF k (keysL ks) := by unfold keysL; rw [List.foldl_append]; rfl
theorem fold_rises : ∀ (ks acc : List Int), Rises acc → Rises (ks.foldl (fun acc k => putF k acc) acc) ∧ ∀ y, y ∈ ks.foldl (fun acc k => putF k acc) acc ↔ y ∈ acc ∨ y ∈ ks
  | [], acc, h => ⟨h, by simp⟩
  | k :: ks, acc, h => by
    obtain ⟨h1, h2⟩ := fold_rises ks (putF k acc) (rises_putF k h)
    refine ⟨h1, fun y => ?_⟩
    rw [List.foldl_cons, h2, mem_putF, List.mem_cons]
    constructor
    · rintro ((h | h) | h)
      · exact .inr (.inl h)
      · exact .inl h
      · exact .inr (.inr h)
    · rintro (h | h | h)
      · exact .inl (.inr h)
      · exact .inl (.inl h)
      · exact .inr h
theorem keysL_rises (ks : List Int) : Rises (keysL ks) := (fold_rises ks [] (by simp)).1
theorem mem_keysL {ks : List Int} {y : Int} : y ∈ keysL ks ↔ y ∈ ks := by
  have := (fold_rises ks [] (by simp)).2 y
  simpa [keysL] using this
theorem keysL_len (ks : List Int) : (keysL ks).length ≤ ks.length := by
  have : ∀ (ks acc : List Int), (ks.foldl (fun acc k => putF k acc) acc).length ≤ acc.length + ks.length := by
    intro ks
    induction ks with
    | nil => intro acc; simp
    | cons k ks ih =>
      intro acc
      have h1 := ih (putF k acc)
      have h2 := putF_len k acc
      simp only [List.foldl_cons, List.length_cons]
      omega
  have := this ks []
  simpa [keysL] using this
theorem take_snoc {α : Type} (l : List α) (d : α) (k : Nat) (h : k < l.length) : l.take (k + 1) = l.take k ++ [l.getD k d] := by
  rw [List.take_succ_eq_append_getElem h, List.getD_eq_getElem?_getD, List.getElem?_eq_getElem h]; rfl
theorem drop_cons {α : Type} (l : List α) (d : α) (k : Nat) (h : k < l.length) : l.drop k = l.getD k d :: l.drop (k + 1) := by
  rw [List.drop_eq_getElem_cons h, List.getD_eq_getElem?_getD, List.getElem?_eq_getElem h]; rfl
end Go.Proofs.YtakgepdlninnhaaDoor.Rf
namespace Go.Proofs.YtakgepdlninnhaaDoor.Cl
/-- Reached by one arc or more. -/
inductive Rs (E : Nat → Nat → Prop) (a : Nat) : Nat → Prop
  | arc {b : Nat} : E a b → Rs E a b
  | tail {b c : Nat} : Rs E a b → E b c → Rs E a c
section
variable {E F : Nat → Nat → Prop} {a b c u v : Nat}
theorem Rs.trans (h : Rs E a b) (k : Rs E b c) : Rs E a c := by
  induction k with
  | arc e => exact h.tail e
  | tail _ e ih => exact ih.tail e
theorem Rs.head (h : E a b) (k : Rs E b c) : Rs E a c := (Rs.arc h).trans k
theorem Rs.mono (h : ∀ a b, E a b → F a b) (k : Rs E a b) : Rs F a b := by
  induction k with
  | arc e => exact .arc (h _ _ e)
  | tail _ e ih => exact ih.tail (h _ _ e)
/-- What is closed under arcs is not left. -/
theorem Rs.stays {P : Nat → Prop} (hP : ∀ a b, P a → E a b → P b) (h : Rs E a b) (ha : P a) : P b := by
  induction h with
  | arc e => exact hP _ _ ha e
  | tail _ e ih => exact hP _ _ ih e
/-- The first arc of a walk. -/
theorem Rs.first (h : Rs E a b) : ∃ c, E a c ∧ (c = b ∨ Rs E c b) := by
  induction h with
  | arc e => exact ⟨_, e, .inl rfl⟩
  | tail _ e ih =>
    obtain ⟨c, h1, h2⟩ := ih
    rcases h2 with rfl | h2
    · exact ⟨c, h1, .inr (.arc e)⟩
    · exact ⟨c, h1, .inr (h2.tail e)⟩
/-- With one arc more. -/
def Plus (E : Nat → Nat → Prop) (u v : Nat) : Nat → Nat → Prop := fun a b => E a b ∨ (a = u ∧ b = v)
theorem plus_iff : Rs (Plus E u v) a b ↔ Rs E a b ∨ ((a = u ∨ Rs E a u) ∧ (b = v ∨ Rs E v b)) := by
  constructor
  · intro h
    induction h with
    | arc e =>
      rcases e with e | ⟨rfl, rfl⟩
      · exact .inl (.arc e)
      · exact .inr ⟨.inl rfl, .inl rfl⟩
    | tail _ e ih =>
      rcases e with e | ⟨rfl, rfl⟩
      · rcases ih with ih | ⟨h1, h2⟩
        · exact .inl (ih.tail e)
        · refine .inr ⟨h1, .inr ?_⟩
          rcases h2 with rfl | h2
          · exact .arc e
          · exact h2.tail e
      · rcases ih with ih | ⟨h1, _⟩
        · exact .inr ⟨.inr ih, .inl rfl⟩
        · exact .inr ⟨h1, .inl rfl⟩
  · have hm : ∀ {x y : Nat}, Rs E x y → Rs (Plus E u v) x y := fun h => h.mono fun _ _ e => .inl e
    have hb : ∀ {y : Nat}, (y = v ∨ Rs E v y) → Rs (Plus E u v) u y := fun h => by
      rcases h with rfl | h
      · exact .arc (.inr ⟨rfl, rfl⟩)
      · exact .head (.inr ⟨rfl, rfl⟩) (hm h)
    rintro (h | ⟨rfl | h1, h2⟩)
    · exact hm h
    · exact hb h2
    · exact (hm h1).trans (hb h2)
/-- An arc more, where its end was reached: nothing changes. -/
theorem plus_same (h : Rs E u v) : Rs (Plus E u v) a b ↔ Rs E a b := by
  rw [plus_iff]
  constructor
  · rintro (k | ⟨h1, h2⟩)
    · exact k
    · have h3 : Rs E u b := by
        rcases h2 with rfl | h2
        · exact h
        · exact h.trans h2
      rcases h1 with rfl | h1
      · exact h3
      · exact h1.trans h3
  · exact .inl
/-- An arc more: who is not ahead of it reaches whom it did. -/
theorem plus_other (h : ¬ (a = u ∨ Rs E a u)) : Rs (Plus E u v) a b ↔ Rs E a b := by
  rw [plus_iff]
  exact ⟨fun k => k.elim id fun k => absurd k.1 h, .inl⟩
/-- An arc more: who is ahead of it reaches all behind it, too. -/
theorem plus_ahead (h : a = u ∨ Rs E a u) : Rs (Plus E u v) a b ↔ Rs E a b ∨ b = v ∨ Rs E v b := by
  rw [plus_iff]
  exact ⟨fun k => k.imp id fun k => k.2, fun k => k.imp id fun k => ⟨h, k⟩⟩
/-- Who is ahead of it and reached its end reached all behind it. -/
theorem plus_had (h : a = u ∨ Rs E a u) (hv : Rs E a v) : Rs (Plus E u v) a b ↔ Rs E a b := by
  rw [plus_ahead h]
  constructor
  · rintro (k | rfl | k)
    · exact k
    · exact hv
    · exact hv.trans k
  · exact .inl
/-- With one arc less. -/
def Less (E : Nat → Nat → Prop) (u v : Nat) : Nat → Nat → Prop := fun a b => E a b ∧ ¬ (a = u ∧ b = v)
theorem less_plus (h : E u v) : ∀ a b, Plus (Less E u v) u v a b ↔ E a b := fun a b => by
  unfold Plus Less
  constructor
  · rintro (k | ⟨rfl, rfl⟩)
    · exact k.1
    · exact h
  · intro k
    by_cases hh : a = u ∧ b = v
    · exact .inr hh
    · exact .inl ⟨k, hh⟩
theorem less_iff (h : E u v) : Rs E a b ↔ Rs (Less E u v) a b ∨ ((a = u ∨ Rs (Less E u v) a u) ∧ (b = v ∨ Rs (Less E u v) v b)) := by
  rw [← plus_iff]
  exact ⟨Rs.mono fun x y e => (less_plus h x y).2 e, Rs.mono fun x y e => (less_plus h x y).1 e⟩
theorem less_sub (h : Rs (Less E u v) a b) : Rs E a b := h.mono fun _ _ e => e.1
/-- Who was ahead of the arc still is. -/
theorem less_ahead (h : E u v) : (a = u ∨ Rs (Less E u v) a u) ↔ (a = u ∨ Rs E a u) := by
  constructor
  · exact fun k => k.imp id less_sub
  · rintro (rfl | k)
    · exact .inl rfl
    · rcases (less_iff h).1 k with k | ⟨k, _⟩
      · exact .inr k
      · exact k
/-- Who was behind the arc still is. -/
theorem less_behind (h : E u v) : (b = v ∨ Rs (Less E u v) v b) ↔ (b = v ∨ Rs E v b) := by
  constructor
  · exact fun k => k.imp id less_sub
  · rintro (rfl | k)
    · exact .inl rfl
    · rcases (less_iff h).1 k with k | ⟨_, k⟩
      · exact .inr k
      · exact k
/-- One arc less: who was not ahead of it reaches whom it did. -/
theorem less_other (h : E u v) (ha : ¬ (a = u ∨ Rs E a u)) : Rs E a b ↔ Rs (Less E u v) a b := by
  rw [less_iff h]
  exact ⟨fun k => k.elim id fun k => absurd ((less_ahead h).1 k.1) ha, .inl⟩
/-- One arc less: who was not behind it is reached by whom it was. -/
theorem less_far (h : E u v) (hb : ¬ (b = v ∨ Rs E v b)) : Rs E a b ↔ Rs (Less E u v) a b := by
  rw [less_iff h]
  exact ⟨fun k => k.elim id fun k => absurd ((less_behind h).1 k.2) hb, .inl⟩
/-- One arc less, where its end is still reached: nothing changes. -/
theorem less_same (h : E u v) (hv : Rs (Less E u v) u v) : Rs E a b ↔ Rs (Less E u v) a b := by
  rw [less_iff h]
  constructor
  · rintro (k | ⟨h1, h2⟩)
    · exact k
    · have h3 : Rs (Less E u v) u b := by
        rcases h2 with rfl | h2
        · exact hv
        · exact hv.trans h2
      rcases h1 with rfl | h1
      · exact h3
      · exact h1.trans h3
  · exact .inl
/-- Who is of one component with u once the arc went: those that u reaches among those ahead of it. -/
theorem less_comp (h : E u v) (P : Nat → Prop) (hP : ∀ x, P x ↔ (x = u ∨ Rs E x u)) : (b = u ∨ Rs (fun x y => Less E u v x y ∧ P y) u b) ↔ (b = u ∨ (Rs (Less E u v) u b ∧ Rs (Less E u v) b u)) := by
  constructor
  · rintro (rfl | k)
    · exact .inl rfl
    · by_cases hb : b = u
      · exact .inl hb
      · refine .inr ⟨k.mono fun _ _ e => e.1, ?_⟩
        have hPb : P b := by
          cases k with
          | arc e => exact e.2
          | tail _ e => exact e.2
        rcases (less_ahead h).2 ((hP b).1 hPb) with e | e
        · exact absurd e hb
        · exact e
  · rintro (rfl | ⟨k1, k2⟩)
    · exact .inl rfl
    · refine .inr ?_
      revert k2
      induction k1 with
      | arc e => exact fun k2 => .arc ⟨e, (hP _).2 (.inr (less_sub k2))⟩
      | tail _ e ih => exact fun k2 => (ih (.head e k2)).tail ⟨e, (hP _).2 (.inr (less_sub k2))⟩
/-- The rows of one component: its own nodes, if it goes round, where its arcs go, and what is reached from there. -/
theorem comp_row {C : Nat → Prop} (hC : ∀ x y, C x → C y → x = y ∨ Rs E x y) (hx : C a) : Rs E a b ↔ (∃ x y, C x ∧ E x y ∧ (b = y ∨ Rs E y b)) := by
  constructor
  · intro h
    obtain ⟨c, h1, h2⟩ := h.first
    exact ⟨a, c, hx, h1, h2.imp Eq.symm id⟩
  · rintro ⟨x, y, h1, h2, h3⟩
    have h4 : Rs E x b := by
      rcases h3 with rfl | h3
      · exact .arc h2
      · exact .head h2 h3
    rcases hC a x hx h1 with rfl | h5
    · exact h4
    · exact h5.trans h4
end
end Go.Proofs.YtakgepdlninnhaaDoor.Cl
namespace Go.Proofs.YtakgepdlninnhaaDoor.Df
/-- All but one. -/
def Wo (L : Nat → Bool) (n : Nat) : Nat → Bool := fun x => L x && !(x == n)
theorem wo_iff {L : Nat → Bool} {n x : Nat} : Wo L n x = true ↔ L x = true ∧ x ≠ n := by simp [Wo]
/-- From each of some nodes, in order: those that are left are met once, each told behind all that were met from it on. -/
inductive Dfs (nx : Nat → List Nat) : List Nat → (Nat → Bool) → (Nat → Bool) → List Nat → Prop
  | nil {L : Nat → Bool} : Dfs nx [] L L []
  | skip {n : Nat} {ns : List Nat} {L M : Nat → Bool} {o : List Nat} : L n = false → Dfs nx ns L M o → Dfs nx (n :: ns) L M o
  | go {n : Nat} {ns : List Nat} {L K M : Nat → Bool} {o p : List Nat} : L n = true → Dfs nx (nx n) (Wo L n) K o → Dfs nx ns K M p → Dfs nx (n :: ns) L M (o ++ n :: p)
/-- Reached through nodes that are left. -/
inductive Thr (nx : Nat → List Nat) (L : Nat → Bool) (a : Nat) : Nat → Prop
  | refl : L a = true → Thr nx L a a
  | tail {b c : Nat} : Thr nx L a b → c ∈ nx b → L c = true → Thr nx L a c
section
variable {nx : Nat → List Nat} {L K M : Nat → Bool} {a b c n x y z : Nat} {ns o p : List Nat}
theorem Thr.mono (h : ∀ x, K x = true → L x = true) (k : Thr nx K a b) : Thr nx L a b := by
  induction k with
  | refl e => exact .refl (h _ e)
  | tail _ e k ih => exact ih.tail e (h _ k)
theorem Thr.trans (h : Thr nx L a b) (k : Thr nx L b c) : Thr nx L a c := by
  induction k with
  | refl _ => exact h
  | tail _ e k ih => exact ih.tail e k
theorem Thr.head (ha : L a = true) (h : b ∈ nx a) (k : Thr nx L b c) : Thr nx L a c := by
  induction k with
  | refl e => exact (Thr.refl ha).tail h e
  | tail _ e k ih => exact ih.tail e k
theorem Thr.left (k : Thr nx L a b) : L b = true := by
  cases k with
  | refl e => exact e
  | tail _ _ e => exact e
theorem Thr.from (k : Thr nx L a b) : L a = true := by
  induction k with
  | refl e => exact e
  | tail _ _ _ ih => exact ih
theorem Dfs.sub (h : Dfs nx ns L M o) : ∀ x, M x = true → L x = true := by
  induction h with
  | nil => exact fun _ h => h
  | skip _ _ ih => exact ih
  | go _ _ _ ih1 ih2 => exact fun x hx => (wo_iff.1 (ih1 x (ih2 x hx))).1
theorem no_of {f : Nat → Bool} {g : Nat → Bool} (h : ∀ x, f x = true → g x = true) {x : Nat} (hx : g x = false) : f x = false := by
  cases e : f x
  · rfl
  · rw [h x e] at hx; cases hx
theorem wo_self : Wo L n n = false := by simp [Wo]
/-- What is told is what was left and isn't any more; each once. -/
theorem Dfs.told (h : Dfs nx ns L M o) : o.Nodup ∧ ∀ x, x ∈ o ↔ (L x = true ∧ M x = false) := by
  induction h with
  | nil => exact ⟨List.nodup_nil, fun x => by simp⟩
  | skip _ _ ih => exact ih
  | @go n ns L K M o p hn h1 h2 ih1 ih2 =>
    obtain ⟨d1, m1⟩ := ih1
    obtain ⟨d2, m2⟩ := ih2
    have hKn : K n = false := no_of h1.sub wo_self
    have hno : n ∉ o := fun e => by have := ((m1 n).1 e).1; rw [wo_self] at this; cases this
    have hnp : n ∉ p := fun e => by have := ((m2 n).1 e).1; rw [hKn] at this; cases this
    refine ⟨?_, fun x => ?_⟩
    · rw [List.nodup_append]
      refine ⟨d1, List.nodup_cons.2 ⟨hnp, d2⟩, fun x hx y hy e => ?_⟩
      subst e
      rcases List.mem_cons.1 hy with rfl | hy
      · exact hno hx
      · have e1 := ((m1 x).1 hx).2
        rw [((m2 x).1 hy).1] at e1
        cases e1
    · rw [List.mem_append, List.mem_cons]
      constructor
      · rintro (hx | rfl | hx)
        · obtain ⟨e1, e2⟩ := (m1 x).1 hx
          exact ⟨(wo_iff.1 e1).1, no_of h2.sub e2⟩
        · exact ⟨hn, no_of h2.sub hKn⟩
        · obtain ⟨e1, e2⟩ := (m2 x).1 hx
          exact ⟨(wo_iff.1 (h1.sub x e1)).1, e2⟩
      · rintro ⟨e1, e2⟩
        by_cases hx : x = n
        · exact .inr (.inl hx)
        · cases e3 : K x
          · exact .inl ((m1 x).2 ⟨wo_iff.2 ⟨e1, hx⟩, e3⟩)
          · exact .inr (.inr ((m2 x).2 ⟨e3, e2⟩))
/-- Who is told was reached from one of them. -/
theorem Dfs.met (h : Dfs nx ns L M o) : ∀ x ∈ o, ∃ m ∈ ns, Thr nx L m x := by
  induction h with
  | nil => intro x hx; cases hx
  | skip _ _ ih =>
    intro x hx
    obtain ⟨m, h1, h2⟩ := ih x hx
    exact ⟨m, List.mem_cons_of_mem _ h1, h2⟩
  | @go n ns L K M o p hn h1 h2 ih1 ih2 =>
    intro x hx
    rcases List.mem_append.1 hx with hx | hx
    · obtain ⟨m, h3, h4⟩ := ih1 x hx
      exact ⟨n, List.mem_cons_self, .head hn h3 (h4.mono fun y hy => (wo_iff.1 hy).1)⟩
    · rcases List.mem_cons.1 hx with rfl | hx
      · exact ⟨x, List.mem_cons_self, .refl hn⟩
      · obtain ⟨m, h3, h4⟩ := ih2 x hx
        exact ⟨m, List.mem_cons_of_mem _ h3, h4.mono fun y hy => (wo_iff.1 (h1.sub y hy)).1⟩
/-- Nobody is left to whom an arc goes from who was told. -/
theorem Dfs.shut (h : Dfs nx ns L M o) : (∀ m ∈ ns, M m = false) ∧ ∀ x ∈ o, ∀ y ∈ nx x, L y = true → M y = false := by
  induction h with
  | nil => exact ⟨fun m hm => (by cases hm), fun x hx => (by cases hx)⟩
  | @skip n ns L M o hn h ih =>
    refine ⟨fun m hm => ?_, ih.2⟩
    rcases List.mem_cons.1 hm with rfl | hm
    · exact no_of h.sub hn
    · exact ih.1 m hm
  | @go n ns L K M o p hn h1 h2 ih1 ih2 =>
    have hKn : K n = false := no_of h1.sub wo_self
    have hMn : M n = false := no_of h2.sub hKn
    refine ⟨fun m hm => ?_, fun x hx y hy hl => ?_⟩
    · rcases List.mem_cons.1 hm with rfl | hm
      · exact hMn
      · exact ih2.1 m hm
    · by_cases hyn : y = n
      · rw [hyn]; exact hMn
      · rcases List.mem_append.1 hx with hx | hx
        · exact no_of h2.sub (ih1.2 x hx y hy (wo_iff.2 ⟨hl, hyn⟩))
        · rcases List.mem_cons.1 hx with rfl | hx
          · exact no_of h2.sub (ih1.1 y hy)
          · cases e : K y
            · exact no_of h2.sub e
            · exact ih2.2 x hx y hy e
/-- An arc that leaves what was told up to one leads to who reaches this one. -/
theorem Dfs.order (h : Dfs nx ns L M o) : ∀ (o1 : List Nat) (x : Nat) (o2 : List Nat), o = o1 ++ x :: o2 → ∀ z, z ∈ o1 ∨ z = x → ∀ y ∈ nx z, L y = true → y ∈ o1 ∨ y = x ∨ Thr nx L y x := by
  induction h with
  | nil => intro o1 x o2 e; simp at e
  | skip _ _ ih => exact ih
  | @go n ns L K M o p hn h1 h2 ih1 ih2 =>
    intro o1 x o2 e z hz y hy hl
    have hKn : K n = false := no_of h1.sub wo_self
    -- an arc from one of the first search, or from n
    have hfst : ∀ z, z ∈ o ∨ z = n → ∀ y ∈ nx z, L y = true → y ∈ o ∨ y = n := fun z hz y hy hl => by
      by_cases hyn : y = n
      · exact .inr hyn
      · refine .inl ((h1.told.2 y).2 ⟨wo_iff.2 ⟨hl, hyn⟩, ?_⟩)
        rcases hz with hz | rfl
        · exact h1.shut.2 z hz y hy (wo_iff.2 ⟨hl, hyn⟩)
        · exact h1.shut.1 y hy
    have key1 : ∀ c', o = o1 ++ x :: c' → y ∈ o1 ∨ y = x ∨ Thr nx L y x := fun c' e => by
      by_cases hyn : y = n
      · obtain ⟨m, h3, h4⟩ := h1.met x (by rw [e]; simp)
        exact .inr (.inr (hyn ▸ .head hn h3 (h4.mono fun y hy => (wo_iff.1 hy).1)))
      · rcases ih1 o1 x c' e z hz y hy (wo_iff.2 ⟨hl, hyn⟩) with h | h | h
        · exact .inl h
        · exact .inr (.inl h)
        · exact .inr (.inr (h.mono fun y hy => (wo_iff.1 hy).1))
    have key2 : o1 = o → x = n → y ∈ o1 ∨ y = x ∨ Thr nx L y x := fun e1 e2 => by
      subst e1; subst e2
      rcases hfst z hz y hy hl with h | h
      · exact .inl h
      · exact .inr (.inl h)
    have key3 : ∀ a', o1 = o ++ n :: a' → p = a' ++ x :: o2 → y ∈ o1 ∨ y = x ∨ Thr nx L y x := fun a' e1 e2 => by
      have hon : ∀ y, y ∈ o ∨ y = n → y ∈ o1 := fun y hy => by rw [e1]; rcases hy with h | h <;> simp [h]
      have hz' : (z ∈ o ∨ z = n) ∨ (z ∈ a' ∨ z = x) := by
        rcases hz with hz | hz
        · rw [e1, List.mem_append, List.mem_cons] at hz
          rcases hz with h | h | h
          · exact .inl (.inl h)
          · exact .inl (.inr h)
          · exact .inr (.inl h)
        · exact .inr (.inr hz)
      rcases hz' with hz' | hz'
      · exact .inl (hon y (hfst z hz' y hy hl))
      · cases e3 : K y
        · refine .inl (hon y ?_)
          by_cases hyn : y = n
          · exact .inr hyn
          · exact .inl ((h1.told.2 y).2 ⟨wo_iff.2 ⟨hl, hyn⟩, e3⟩)
        · rcases ih2 a' x o2 e2 z hz' y hy e3 with h | h | h
          · exact .inl (by rw [e1]; simp [h])
          · exact .inr (.inl h)
          · exact .inr (.inr (h.mono fun y hy => (wo_iff.1 (h1.sub y hy)).1))
    rcases List.append_eq_append_iff.1 e with ⟨a', h3, h4⟩ | ⟨c', h3, h4⟩
    · match a', h3, h4 with
      | [], h3, h4 =>
        simp only [List.nil_append, List.cons.injEq] at h4
        exact key2 (by simpa using h3) h4.1.symm
      | m :: a', h3, h4 =>
        simp only [List.cons_append, List.cons.injEq] at h4
        obtain ⟨rfl, h4⟩ := h4
        exact key3 a' h3 h4
    · match c', h3, h4 with
      | [], h3, h4 =>
        simp only [List.nil_append, List.cons.injEq] at h4
        exact key2 (by simpa using h3.symm) h4.1
      | m :: c', h3, h4 =>
        simp only [List.cons_append, List.cons.injEq] at h4
        obtain ⟨rfl, h4⟩ := h4
        exact key1 c' h3
/-- Behind the last node of a component, nobody is told whom it reaches. -/
theorem Dfs.last (h : Dfs nx ns L M o) {o1 o2 : List Nat} (e : o = o1 ++ x :: o2) (hl : ∀ w ∈ o2, ¬ (Thr nx L x w ∧ Thr nx L w x)) (k : Thr nx L x y) : y ∈ o1 ∨ y = x := by
  induction k with
  | refl _ => exact .inr rfl
  | @tail b c k1 k2 k3 ih =>
    rcases h.order o1 x o2 e b ih c k2 k3 with h1 | h1 | h1
    · exact .inl h1
    · exact .inr h1
    · have hb : b ∈ o := by rw [e]; rcases ih with h | h <;> simp [h]
      have hc : c ∈ o := (h.told.2 c).2 ⟨k3, h.shut.2 b hb c k2 k3⟩
      rw [e, List.mem_append, List.mem_cons] at hc
      rcases hc with hc | hc | hc
      · exact .inl hc
      · exact .inr hc
      · exact absurd ⟨k1.tail k2 k3, h1⟩ (hl c hc)
end
end Go.Proofs.YtakgepdlninnhaaDoor.Df
namespace Go.Proofs.YtakgepdlninnhaaDoor.Df
section
variable {nx pv : Nat → List Nat} {L L0 K M : Nat → Bool} {a b c x y z w : Nat} {ns o o1 o2 : List Nat}
/-- Through the other arcs, the other way round. -/
theorem Thr.turn (hp : ∀ a b, b ∈ nx a → a ∈ pv b) (h : Thr nx L a b) : Thr pv L b a := by
  induction h with
  | refl e => exact .refl e
  | tail _ e k ih => exact Thr.head k (hp _ _ e) ih
/-- Each reaches the other. -/
def Both (pv : Nat → List Nat) (L : Nat → Bool) (a b : Nat) : Prop := Thr pv L a b ∧ Thr pv L b a
theorem Both.symm (h : Both pv L a b) : Both pv L b a := ⟨h.2, h.1⟩
theorem Both.trans (h : Both pv L a b) (k : Both pv L b c) : Both pv L a c := ⟨h.1.trans k.1, k.2.trans h.2⟩
/-- The last of a list of which P holds. -/
theorem last_of {P : Nat → Prop} : ∀ (o : List Nat), (∃ x ∈ o, P x) → ∃ p1 w p2, o = p1 ++ w :: p2 ∧ P w ∧ ∀ v ∈ p2, ¬ P v
  | [], ⟨x, hx, _⟩ => by cases hx
  | y :: o, h => by
    by_cases hh : ∃ x ∈ o, P x
    · obtain ⟨p1, w, p2, e, h1, h2⟩ := last_of o hh
      exact ⟨y :: p1, w, p2, by rw [e]; rfl, h1, h2⟩
    · obtain ⟨x, hx, hP⟩ := h
      rcases List.mem_cons.1 hx with rfl | hx
      · exact ⟨[], x, o, rfl, hP, fun v hv k => hh ⟨v, hv, k⟩⟩
      · exact absurd ⟨x, hx, hP⟩ hh
/-- Two splits of one list without doubles. -/
theorem split_lt : ∀ {o1 p1 o2 p2 : List Nat} {x w : Nat}, (o1 ++ x :: o2).Nodup → o1 ++ x :: o2 = p1 ++ w :: p2 → w ∈ o1 → x ∈ p1 → False
  | [], _, _, _, _, _, _, _, hw, _ => by cases hw
  | m :: o1, [], _, _, _, _, _, _, _, hx => by cases hx
  | m :: o1, k :: p1, o2, p2, x, w, hn, e, hw, hx => by
    simp only [List.cons_append, List.cons.injEq] at e
    obtain ⟨rfl, e⟩ := e
    rw [List.cons_append, List.nodup_cons] at hn
    have hwm : w ≠ m := fun h => hn.1 (by rw [← h, e]; simp)
    have hxm : x ≠ m := fun h => hn.1 (by rw [← h]; simp)
    exact split_lt hn.2 e ((List.mem_cons.1 hw).resolve_left hwm) ((List.mem_cons.1 hx).resolve_left hxm)
/-- What the second search meets from one on is its component. -/
theorem second (hp : ∀ a b, b ∈ nx a ↔ a ∈ pv b) (h : Dfs pv ns L0 M o) (hall : ∀ z, L0 z = true → z ∈ o) (e : o = o1 ++ x :: o2) (hL : ∀ z, L z = true ↔ (L0 z = true ∧ ∀ w ∈ o2, ¬ Both pv L0 z w)) (hx : L x = true) : Thr nx L x z ↔ Both pv L0 x z := by
  have hsub : ∀ y, L y = true → L0 y = true := fun y hy => ((hL y).1 hy).1
  constructor
  · intro k
    have k0 : Thr pv L0 z x := (k.mono hsub).turn fun a b hb => (hp a b).1 hb
    have hzz : Both pv L0 z z := ⟨.refl (hsub z k.left), .refl (hsub z k.left)⟩
    obtain ⟨p1, w, p2, e2, hw, hlast⟩ := last_of (P := fun w => Both pv L0 z w) o ⟨z, hall z (hsub z k.left), hzz⟩
    have hwx : x ∈ p1 ∨ x = w := h.last e2 (fun v hv hb => hlast v hv (hw.trans hb)) (hw.2.trans k0)
    rcases hwx with hx1 | rfl
    · have hwo : w ∈ o := by rw [e2]; simp
      have hw2 : w ∉ o2 := fun hh => ((hL z).1 k.left).2 w hh hw
      rw [e, List.mem_append, List.mem_cons] at hwo
      rcases hwo with hwo | rfl | hwo
      · exact absurd hx1 fun hx1 => split_lt (by rw [← e]; exact h.told.1) (e.symm.trans e2) hwo hx1
      · exact hw.symm
      · exact absurd hwo hw2
    · exact hw.symm
  · rintro ⟨k1, k2⟩
    have hstay : ∀ y, Both pv L0 x y → L y = true := fun y hy => (hL y).2 ⟨hy.1.left, fun w hw hb => ((hL x).1 hx).2 w hw (hy.trans hb)⟩
    have k2' : Thr nx L0 x z := k2.turn fun a b hb => (hp b a).2 hb
    clear k2
    induction k2' with
    | refl _ => exact .refl hx
    | @tail b c m1 m2 m3 ih =>
      have hcx : Thr pv L0 x c := k1
      have hbc : Thr pv L0 c b := (Thr.refl m3).tail ((hp b c).1 m2) m1.left
      have hbx : Thr pv L0 b x := m1.turn fun a b hb => (hp a b).1 hb
      have hb : Thr pv L0 x b := hcx.trans hbc
      exact (ih hb).tail m2 (hstay c ⟨hcx, hbc.trans hbx⟩)
end
end Go.Proofs.YtakgepdlninnhaaDoor.Df
namespace Go.Proofs.YtakgepdlninnhaaDoor.Cl
open Go.Proofs.YtakgepdlninnhaaDoor.Df
section
variable {E : Nat → Nat → Prop} {a b c u v x y z : Nat}
/-- The row of who is of some that reach each other: these themselves, if an arc goes from one of them to one of them; where else their arcs go, and who is reached from there. -/
theorem settle_row {C : Nat → Prop} (hC : ∀ x y, C x → C y → x = y ∨ Rs E x y) (ha : C a) : Rs E a b ↔ ((∃ x y, C x ∧ C y ∧ E x y) ∧ C b) ∨ ∃ x y, C x ∧ E x y ∧ ¬ C y ∧ (b = y ∨ Rs E y b) := by
  constructor
  · intro h
    induction h with
    | @arc b e =>
      by_cases hb : C b
      · exact .inl ⟨⟨a, b, ha, hb, e⟩, hb⟩
      · exact .inr ⟨a, b, ha, e, hb, .inl rfl⟩
    | @tail b c _ e ih =>
      rcases ih with ⟨h1, h2⟩ | ⟨x, y, h1, h2, h3, h4⟩
      · by_cases hc : C c
        · exact .inl ⟨h1, hc⟩
        · exact .inr ⟨b, c, h2, e, hc, .inl rfl⟩
      · refine .inr ⟨x, y, h1, h2, h3, .inr ?_⟩
        rcases h4 with rfl | h4
        · exact .arc e
        · exact h4.tail e
  · have key : ∀ x y, C x → E x y → Rs E a y := fun x y hx e => by
      rcases hC a x ha hx with rfl | h
      · exact .arc e
      · exact h.tail e
    rintro (⟨⟨x, y, h1, h2, h3⟩, h4⟩ | ⟨x, y, h1, h2, _, h4⟩)
    · rcases hC y b h2 h4 with rfl | h
      · exact key x y h1 h3
      · exact (key x y h1 h3).trans h
    · rcases h4 with rfl | h4
      · exact key x b h1 h2
      · exact (key x y h1 h2).trans h4
end
section
variable {nx pv : Nat → List Nat} {a b c u v x y z n : Nat} {A : Nat → Bool}
/-- Arcs as lists. -/
def Arcs (nx : Nat → List Nat) : Nat → Nat → Prop := fun a b => b ∈ nx a
theorem thr_rs (hp : ∀ a b, b ∈ nx a ↔ a ∈ pv b) (h : Thr pv A a b) : a = b ∨ Rs (Arcs nx) b a := by
  induction h with
  | refl _ => exact .inl rfl
  | @tail b c _ e _ ih =>
    have hc : Arcs nx c b := (hp c b).2 e
    rcases ih with rfl | ih
    · exact .inr (.arc hc)
    · exact .inr (.head hc ih)
/-- Who still reaches n, among those that did: who is met from where its arcs come from, the other way, through those that did. -/
theorem lose_iff (hp : ∀ a b, b ∈ nx a ↔ a ∈ pv b) (hA : ∀ y, Rs (Arcs nx) y n → A y = true) : (∃ p ∈ pv n, Thr pv A p x) ↔ Rs (Arcs nx) x n := by
  constructor
  · rintro ⟨p, h1, h2⟩
    have h3 : Arcs nx p n := (hp p n).2 h1
    rcases thr_rs hp h2 with rfl | h2
    · exact .arc h3
    · exact h2.tail h3
  · intro h
    induction h with
    | arc e => exact ⟨x, (hp x _).1 e, .refl (hA x (.arc e))⟩
    | @tail b c k e ih =>
      refine ⟨b, (hp b c).1 e, ?_⟩
      have hb : A b = true := hA b (.arc e)
      clear ih
      have key : ∀ b', Rs (Arcs nx) x b' → Rs (Arcs nx) b' c → Thr pv A b' x := fun b' k => by
        induction k with
        | arc e2 => exact fun m => (Thr.refl (hA _ m)).tail ((hp _ _).1 e2) (hA _ (.head e2 m))
        | @tail d f k2 e2 ih => exact fun m => Thr.head (hA _ m) ((hp _ _).1 e2) (ih (.head e2 m))
      exact key b k (.arc e)
end
end Go.Proofs.YtakgepdlninnhaaDoor.Cl
namespace Go.Proofs.YtakgepdlninnhaaDoor.Df
section
variable {nx pv : Nat → List Nat} {L L0 K M M0 : Nat → Bool} {a b c x y z w : Nat} {ns o o1 o2 t : List Nat}
/-- Who is told is who is reached from one of them through who is left. -/
theorem Dfs.iff (h : Dfs nx ns L M o) : x ∈ o ↔ ∃ m ∈ ns, Thr nx L m x := by
  constructor
  · exact h.met x
  · rintro ⟨m, hm, k⟩
    induction k with
    | refl e => exact (h.told.2 m).2 ⟨e, h.shut.1 m hm⟩
    | @tail b c _ e k ih => exact (h.told.2 c).2 ⟨k, h.shut.2 b ih c e k⟩
/-- What the second search still has to do, when those of o2 are done. -/
def Todo (pv : Nat → List Nat) (L0 L : Nat → Bool) (o2 : List Nat) : Prop := ∀ z, L z = true ↔ (L0 z = true ∧ ∀ w ∈ o2, ¬ Both pv L0 z w)
theorem Todo.start (L0 : Nat → Bool) : Todo pv L0 L0 [] := fun z => ⟨fun h => ⟨h, fun w hw => by cases hw⟩, fun h => h.1⟩
/-- One that was met: nothing is left of it. -/
theorem Todo.skip (h : Todo pv L0 L o2) (hx : L x = false) (h0 : L0 x = true) : Todo pv L0 L (x :: o2) := fun z => by
  rw [h z]
  refine and_congr_right fun hz => ⟨fun k w hw hb => ?_, fun k w hw => k w (List.mem_cons_of_mem _ hw)⟩
  rcases List.mem_cons.1 hw with rfl | hw
  · refine absurd ((h w).2 ⟨h0, fun v hv hbv => k v hv (hb.trans hbv)⟩) ?_
    rw [hx]; simp
  · exact k w hw hb
/-- One that was left: its component goes. -/
theorem Todo.go (hp : ∀ a b, b ∈ nx a ↔ a ∈ pv b) (h : Dfs pv ns L0 M0 o) (hall : ∀ z, L0 z = true → z ∈ o) (e : o = o1 ++ x :: o2) (hT : Todo pv L0 L o2) (hx : L x = true) (hd : Dfs nx [x] L M t) :
    (∀ z, z ∈ t ↔ Both pv L0 x z) ∧ Todo pv L0 M (x :: o2) ∧ ∀ y ∈ t, ∀ z ∈ nx y, L0 z = true → z ∈ t ∨ L z = false := by
  have h1 : ∀ z, z ∈ t ↔ Both pv L0 x z := fun z => by
    rw [hd.iff, ← second hp h hall e hT hx]
    exact ⟨fun ⟨m, hm, k⟩ => by rw [List.mem_singleton] at hm; exact hm ▸ k, fun k => ⟨x, List.mem_singleton.2 rfl, k⟩⟩
  refine ⟨h1, fun z => ?_, fun y hy z hz h0 => ?_⟩
  · constructor
    · intro hm
      have hl := hd.sub z hm
      obtain ⟨k1, k2⟩ := (hT z).1 hl
      refine ⟨k1, fun w hw hb => ?_⟩
      rcases List.mem_cons.1 hw with rfl | hw
      · have := ((hd.told.2 z).1 ((h1 z).2 hb.symm)).2
        rw [hm] at this; cases this
      · exact k2 w hw hb
    · rintro ⟨k1, k2⟩
      have hl : L z = true := (hT z).2 ⟨k1, fun w hw => k2 w (List.mem_cons_of_mem _ hw)⟩
      cases em : M z
      · have := (h1 z).1 ((hd.told.2 z).2 ⟨hl, em⟩)
        exact absurd this.symm (k2 x List.mem_cons_self)
      · rfl
  · cases el : L z
    · exact .inr rfl
    · exact .inl ((hd.told.2 z).2 ⟨el, hd.shut.2 y hy z hz el⟩)
/-- At the end nobody is left. -/
theorem Todo.done (hall : ∀ z, L0 z = true → z ∈ o) (hT : Todo pv L0 L o) (z : Nat) : L z = false := by
  cases e : L z
  · rfl
  · obtain ⟨h1, h2⟩ := (hT z).1 e
    exact absurd ⟨.refl h1, .refl h1⟩ (h2 z (hall z h1))
/-- A first search from all that are left tells all of them. -/
theorem Dfs.all (h : Dfs nx ns L M o) (hn : ∀ z, L z = true → z ∈ ns) (hz : L z = true) : z ∈ o := h.iff.2 ⟨z, hn z hz, .refl hz⟩
end
end Go.Proofs.YtakgepdlninnhaaDoor.Df
namespace Go.Proofs.YtakgepdlninnhaaDoor.Cs
open Df
/-- How many there are. -/
def cntB (L : Nat → Bool) : Nat → Nat
  | 0 => 0
  | n + 1 => cntB L n + (if L n then 1 else 0)
theorem cntB_le {L M : Nat → Bool} (h : ∀ x, M x = true → L x = true) : ∀ n, cntB M n ≤ cntB L n
  | 0 => Nat.le_refl _
  | n + 1 => by
    have := cntB_le h n
    unfold cntB
    by_cases e : M n = true
    · rw [e, h n e]; simp; omega
    · rw [if_neg e]; omega
theorem cntB_wo {L : Nat → Bool} {v : Nat} (h : L v = true) : ∀ n, v < n → cntB (Wo L v) n + 1 = cntB L n
  | 0, hv => absurd hv (Nat.not_lt_zero _)
  | n + 1, hv => by
    unfold cntB
    by_cases e : n = v
    · subst e
      have : ∀ m, m ≤ n → cntB (Wo L n) m = cntB L m := by
        intro m
        induction m with
        | zero => intro _; rfl
        | succ m ih =>
          intro hm
          unfold cntB
          rw [ih (by omega)]
          have : Wo L n m = L m := by unfold Wo; simp [show ¬ m = n by omega]
          rw [this]
      rw [this n (Nat.le_refl _), wo_self, h]
      simp
    · have := cntB_wo h n (by omega)
      have e2 : Wo L v n = L n := by unfold Wo; simp [e]
      rw [e2]
      omega
theorem cntB_le_n (L : Nat → Bool) : ∀ n, cntB L n ≤ n
  | 0 => Nat.le_refl _
  | n + 1 => by have := cntB_le_n L n; unfold cntB; split <;> omega
/-- Those below i that P holds of. -/
def preB (P : Nat → Bool) (i : Nat) : List Nat := (List.range i).filter P
theorem preB_succ (P : Nat → Bool) (i : Nat) : preB P (i + 1) = preB P i ++ (if P i then [i] else []) := by
  unfold preB
  rw [List.range_succ, List.filter_append]
  congr 1
  cases e : P i <;> simp [e]
variable {nx : Nat → List Nat} {L K M : Nat → Bool} {ns o p : List Nat}
theorem dfs_snoc {v : Nat} (h : Dfs nx ns L K o) (k : Dfs nx [v] K M p) : Dfs nx (ns ++ [v]) L M (o ++ p) := by
  induction h with
  | nil => exact k
  | skip h1 _ ih => exact .skip h1 (ih k)
  | go h1 h2 _ _ ih =>
    rw [List.append_assoc]
    exact .go h1 h2 (ih k)
theorem dfs_skips {P : Nat → Bool} {i : Nat} (h : Dfs nx (preB P i) L K o) : ∀ j, i ≤ j → (∀ x, i ≤ x → x < j → ¬ (P x = true ∧ K x = true)) → Dfs nx (preB P j) L K o
  | 0, hj, _ => by
    have : i = 0 := by omega
    subst this
    exact h
  | j + 1, hj, hn => by
    by_cases e : i = j + 1
    · subst e; exact h
    · have h1 := dfs_skips h j (by omega) (fun x a b => hn x a (by omega))
      rw [preB_succ]
      cases hp : P j with
      | false => simpa using h1
      | true =>
        have hk : K j = false := by
          cases hk : K j with
          | false => rfl
          | true => exact absurd ⟨hp, hk⟩ (hn j (by omega) (Nat.lt_succ_self j))
        have := dfs_snoc h1 (Dfs.skip hk .nil)
        simpa using this
/-- One of them is gone through. -/
theorem dfs_next_ {P : Nat → Bool} {i j : Nat} (h : Dfs nx (preB P i) L K o) (hij : i ≤ j) (hn : ∀ x, i ≤ x → x < j → ¬ (P x = true ∧ K x = true)) (hp : P j = true) (k : Dfs nx [j] K M p) : Dfs nx (preB P (j + 1)) L M (o ++ p) := by
  have h1 := dfs_skips h j hij hn
  rw [preB_succ, if_pos hp]
  exact dfs_snoc h1 k
theorem dfs_len (h : Dfs nx ns L M o) {n : Nat} (hb : ∀ x, L x = true → x < n) : o.length + cntB M n = cntB L n := by
  induction h with
  | nil => simp
  | skip _ _ ih => exact ih hb
  | @go v ns L K M o p hv h1 h2 ih1 ih2 =>
    have hb1 : ∀ x, Wo L v x = true → x < n := fun x hx => hb x (wo_iff.1 hx).1
    have e1 := ih1 hb1
    have e2 := ih2 (fun x hx => hb1 x (h1.sub x hx))
    have e3 := cntB_wo hv n (hb v hv)
    rw [List.length_append, List.length_cons]
    omega
end Go.Proofs.YtakgepdlninnhaaDoor.Cs
namespace Go.Proofs.YtakgepdlninnhaaDoor.Cl
section
variable {E : Nat → Nat → Prop} {a b c u v x y z n : Nat}
/-- The component of the arc's start, once the arc went. -/
def Co (E : Nat → Nat → Prop) (u v : Nat) (x : Nat) : Prop := x = u ∨ (Rs (Less E u v) u x ∧ Rs (Less E u v) x u)
theorem co_both (hx : Co E u v x) (hy : Co E u v y) : x = y ∨ Rs (Less E u v) x y := by
  rcases hx with rfl | ⟨h1, h2⟩
  · rcases hy with rfl | ⟨h3, _⟩
    · exact .inl rfl
    · exact .inr h3
  · rcases hy with rfl | ⟨h3, _⟩
    · exact .inr h2
    · exact .inr (h2.trans h3)
theorem co_reached (hx : Co E u v x) (e : Less E u v x y) : Rs (Less E u v) u y := by
  rcases hx with rfl | ⟨h1, _⟩
  · exact .arc e
  · exact h1.tail e
/-- Where else the component's arcs go, rows are as they were. -/
theorem co_out (h : E u v) (hx : Co E u v x) (e : Less E u v x y) (hy : ¬ Co E u v y) : Rs E y b ↔ Rs (Less E u v) y b := by
  refine less_other h fun hh => hy ?_
  rcases (less_ahead h).2 hh with rfl | k
  · exact .inl rfl
  · exact .inr ⟨co_reached hx e, k⟩
/-- The component's row, by the rows that were. -/
theorem co_row (h : E u v) (ha : Co E u v a) : Rs (Less E u v) a b ↔ ((∃ x y, Co E u v x ∧ Co E u v y ∧ Less E u v x y) ∧ Co E u v b) ∨ ∃ x y, Co E u v x ∧ Less E u v x y ∧ ¬ Co E u v y ∧ (b = y ∨ Rs E y b) := by
  rw [settle_row (E := Less E u v) (C := Co E u v) (fun x y => co_both) ha]
  refine or_congr_right ⟨?_, ?_⟩
  · rintro ⟨x, y, h1, h2, h3, h4⟩
    exact ⟨x, y, h1, h2, h3, h4.imp id less_sub⟩
  · rintro ⟨x, y, h1, h2, h3, h4⟩
    exact ⟨x, y, h1, h2, h3, h4.imp id (co_out h h1 h2 h3).1⟩
/-- The component is ahead of the arc. -/
theorem co_ahead (hx : Co E u v x) : x = u ∨ Rs E x u := hx.imp id fun h => less_sub h.2
/-- Who is ahead of the arc and behind it reached itself. -/
theorem lost_round (h : E u v) (hb : n = v ∨ Rs E v n) (ha : n = u ∨ Rs E n u) : Rs E n n := by
  have h1 : Rs E n v := by
    rcases ha with rfl | ha
    · exact .arc h
    · exact ha.tail h
  rcases hb with rfl | hb
  · exact h1
  · exact h1.trans hb
/-- Who was ahead reached all that was behind. -/
theorem ahead_behind (h : E u v) (ha : a = u ∨ Rs E a u) (hb : b = v ∨ Rs E v b) : Rs E a b := by
  have h1 : Rs E a v := by
    rcases ha with rfl | ha
    · exact .arc h
    · exact ha.tail h
  rcases hb with rfl | hb
  · exact h1
  · exact h1.trans hb
/-- The arc's start was found to reach its end among the component: nothing changes, but that a node's arc to itself may be all that brought it back. -/
theorem co_end (h : E u v) (hn : u ≠ v) (hv : Co E u v v) : Rs E a b ↔ Rs (Less E u v) a b := by
  rcases hv with e | ⟨k, _⟩
  · exact absurd e.symm hn
  · exact less_same h k
end
/-- What settle's loop makes: who is in the row already is skipped. -/
theorem settle_end {R : Nat → Nat → Prop} {row0 row N done : Nat → Prop} (hR : ∀ a b c, N a → R a b → N b → R b c → R a c) (hd : ∀ t, done t → N t) (h0 : ∀ t, N t → ¬ row0 t)
    (hrow : ∀ b, row b ↔ row0 b ∨ ∃ t, done t ∧ (b = t ∨ R t b)) (hall : ∀ t, N t → row t) (b : Nat) : row b ↔ row0 b ∨ ∃ t, N t ∧ (b = t ∨ R t b) := by
  constructor
  · intro h
    rcases (hrow b).1 h with h | ⟨t, h1, h2⟩
    · exact .inl h
    · exact .inr ⟨t, hd t h1, h2⟩
  · rintro (h | ⟨t, h1, h2⟩)
    · exact (hrow b).2 (.inl h)
    · rcases (hrow t).1 (hall t h1) with h | ⟨s, h3, h4⟩
      · exact absurd h (h0 t h1)
      · refine (hrow b).2 (.inr ⟨s, h3, ?_⟩)
        rcases h4 with rfl | h4
        · exact h2
        · rcases h2 with rfl | h2
          · exact .inr h4
          · exact .inr (hR s t b (hd s h3) h4 h1 h2)
end Go.Proofs.YtakgepdlninnhaaDoor.Cl
namespace Go.Proofs.YtakgepdlninnhaaDoor.Sc
/-- How many were not met. -/
def unmet (n : Nat) (num : Nat → Nat) : Nat := (List.range n).countP fun v => num v == 0
theorem unmet_succ (n : Nat) (num : Nat → Nat) : unmet (n + 1) num = unmet n num + (if num n = 0 then 1 else 0) := by
  unfold unmet
  rw [List.range_succ, List.countP_append]
  simp
theorem unmet_far {n v x : Nat} {num : Nat → Nat} (h : n ≤ v) : unmet n (put num v x) = unmet n num := by
  induction n with
  | zero => rfl
  | succ n ih =>
    rw [unmet_succ, unmet_succ, ih (by omega), put_ne _ _ (by omega)]
theorem unmet_put {n v x : Nat} {num : Nat → Nat} (hv : v < n) (h0 : num v = 0) (hx : x ≠ 0) : unmet n (put num v x) + 1 = unmet n num := by
  induction n with
  | zero => omega
  | succ n ih =>
    rw [unmet_succ, unmet_succ]
    by_cases e : v = n
    · subst e
      rw [unmet_far (Nat.le_refl _), put_at, if_neg hx, if_pos h0]
    · have := ih (by omega)
      rw [put_ne _ _ (Ne.symm e)]
      omega
theorem unmet_pos {n v : Nat} {num : Nat → Nat} (hv : v < n) (h0 : num v = 0) : 0 < unmet n num := by
  have := unmet_put (x := 1) hv h0 (by omega)
  omega
theorem unmet_all (n : Nat) : unmet n (fun _ => 0) = n := by
  induction n with
  | zero => rfl
  | succ n ih => rw [unmet_succ, ih]; simp
section
variable {nx : Nat → List Nat} {v : Nat} {s s1 : St} {X pre : List Nat}
theorem way_num (h : Way nx v s pre s1 X) {y : Nat} (hy : y ∈ X) : s1.num v ≤ s1.num y := by
  have h1 := h.inv.opn y (by rw [h.opn]; exact List.mem_append_left _ hy)
  have := h.late y (h.new y hy) h1
  rw [h.numv]
  omega
/-- The visit's own node is the last one of those that it opened. -/
theorem way_last (h : Way nx v s pre s1 X) : ∃ Y, X = Y ++ [v] ∧ v ∉ Y := by
  have hd := h.inv.dec
  rw [h.opn, List.pairwise_append] at hd
  have hd1 := hd.1
  have hv := h.vin
  have hn := fun y hy => way_num (y := y) h hy
  revert hd1 hv hn
  clear hd h
  induction X with
  | nil => intro _ hv; cases hv
  | cons a X ih =>
    intro hd hv hn
    rw [List.pairwise_cons] at hd
    rcases X with _ | ⟨b, X⟩
    · simp at hv
      exact ⟨[], by simp [hv], by simp⟩
    · have hva : v ≠ a := fun e => by
        subst e
        have h1 := hd.1 b List.mem_cons_self
        have h2 := hn b (List.mem_cons_of_mem _ List.mem_cons_self)
        omega
      have hv2 : v ∈ b :: X := (List.mem_cons.1 hv).resolve_left hva
      obtain ⟨Y, h1, h2⟩ := ih hd.2 hv2 (fun y hy => hn y (List.mem_cons_of_mem _ hy))
      exact ⟨a :: Y, by rw [h1]; rfl, by simp [hva, h2]⟩
/-- Those below are not of the visit. -/
theorem way_apart (h : Way nx v s pre s1 X) : v ∉ s.opn := fun hv => by
  have hd := h.inv.dec
  rw [h.opn, List.pairwise_append] at hd
  have := hd.2.2 v h.vin v hv
  omega
end
/-- Labels laid one by one. -/
def labs (l : Nat) (f : Nat → Nat) (X : List Nat) : Nat → Nat := X.foldl (fun f x => put f x l) f
theorem labs_eq (l : Nat) : ∀ (X : List Nat) (f : Nat → Nat), labs l f X = fun u => if u ∈ X then l else f u
  | [], f => by funext u; simp [labs]
  | x :: X, f => by
    have := labs_eq l X (put f x l)
    unfold labs at this ⊢
    rw [List.foldl_cons, this]
    funext u
    by_cases h : u ∈ X
    · simp [h]
    · by_cases e : u = x
      · simp [e, put]
      · simp [h, e, put]
theorem labs_snoc (l : Nat) (f : Nat → Nat) (X : List Nat) (x : Nat) : labs l f (X ++ [x]) = put (labs l f X) x l := by
  unfold labs
  rw [List.foldl_append]
  rfl
end Go.Proofs.YtakgepdlninnhaaDoor.Sc
