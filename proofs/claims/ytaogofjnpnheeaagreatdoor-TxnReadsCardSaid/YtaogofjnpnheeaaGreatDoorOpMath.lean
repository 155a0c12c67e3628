/-
  Plain facts on operations' texts: their parts, as the program cuts them and as the document walks them. Not a statement of the seat.
-/
import Derived.Test.YtaogofjnpnheeaaGreatDoorNuRd
import Derived.Lib.SlTrimSet
import Derived.Lib.IndexMore
namespace Go.Proofs.YtaogofjnpnheeaaGreatDoor.Op
open Go.Lib Nu
/-- Some digits, at least one. -/
def dgs (l : List UInt8) : Bool := !l.isEmpty && l.all digB
/-- The digits ahead, and what is behind them. -/
def run (l : List UInt8) : List UInt8 := l.takeWhile digB
def aft (l : List UInt8) : List UInt8 := l.dropWhile digB
theorem run_aft (l : List UInt8) : run l ++ aft l = l := List.takeWhile_append_dropWhile
theorem mem_tw {p : UInt8 → Bool} : ∀ {l : List UInt8} {x : UInt8}, x ∈ l.takeWhile p → p x = true
  | [], _, h => by cases h
  | y :: l, x, h => by
    by_cases hy : p y = true
    · rw [List.takeWhile_cons_of_pos hy] at h
      rcases List.mem_cons.1 h with rfl | h
      · exact hy
      · exact mem_tw h
    · rw [List.takeWhile_cons_of_neg hy] at h; cases h
theorem dw_nil {p : UInt8 → Bool} : ∀ {l : List UInt8}, l.dropWhile p = [] ↔ ∀ x ∈ l, p x = true
  | [] => by simp
  | y :: l => by
    by_cases hy : p y = true
    · rw [List.dropWhile_cons_of_pos hy, dw_nil]
      simp [hy]
    · rw [List.dropWhile_cons_of_neg hy]
      simp [hy]
theorem run_all (l : List UInt8) : (run l).all digB = true := by
  rw [List.all_eq_true]
  intro x hx
  exact mem_tw hx
/-- What is cut at a byte. -/
def cutA (c : UInt8) : List UInt8 → List UInt8
  | [] => []
  | x :: l => if x = c then [] else x :: cutA c l
def cutB (c : UInt8) : List UInt8 → List UInt8
  | [] => []
  | x :: l => if x = c then l else cutB c l
def cutF (c : UInt8) : List UInt8 → Bool
  | [] => false
  | x :: l => if x = c then true else cutF c l
theorem indexByte_lt : ∀ (l : List UInt8) (c : UInt8), indexByte l c < l.length
  | [], c => by show (-1 : Int) < 0; decide
  | b :: l, c => by
    have h := indexByte_lt l c
    unfold indexByte
    rw [List.length_cons]
    split
    · omega
    · split
      · omega
      · omega
theorem cut_no : ∀ (l : List UInt8) (c : UInt8), indexByte l c = -1 → cutA c l = l ∧ cutB c l = [] ∧ cutF c l = false
  | [], c, _ => ⟨rfl, rfl, rfl⟩
  | b :: l, c, h => by
    unfold indexByte at h
    by_cases e : b = c
    · subst e; simp at h
    · have e2 : (b == c) = false := by rw [beq_eq_false_iff_ne]; exact e
      rw [e2] at h
      have hge := indexByte_ge l c
      have h1 : indexByte l c = -1 := by
        by_cases h2 : indexByte l c = -1
        · exact h2
        · exfalso
          simp [h2] at h
          omega
      obtain ⟨a1, a2, a3⟩ := cut_no l c h1
      unfold cutA cutB cutF
      rw [if_neg e, if_neg e, if_neg e, a1, a2, a3]
      exact ⟨rfl, rfl, rfl⟩
theorem cut_yes : ∀ (l : List UInt8) (c : UInt8) (i : Nat), indexByte l c = i → cutA c l = l.take i ∧ cutB c l = l.drop (i + 1) ∧ cutF c l = true
  | [], c, i, h => by have : ((-1 : Int)) = i := h; omega
  | b :: l, c, i, h => by
    unfold indexByte at h
    by_cases e : b = c
    · subst e
      simp at h
      obtain rfl : i = 0 := by omega
      unfold cutA cutB cutF
      simp
    · have e2 : (b == c) = false := by rw [beq_eq_false_iff_ne]; exact e
      rw [e2] at h
      have hge := indexByte_ge l c
      by_cases h2 : indexByte l c = -1
      · simp [h2] at h
      · simp [h2] at h
        obtain ⟨j, rfl⟩ : ∃ j, i = j + 1 := ⟨i - 1, by omega⟩
        obtain ⟨a1, a2, a3⟩ := cut_yes l c j (by omega)
        unfold cutA cutB cutF
        rw [if_neg e, if_neg e, if_neg e, a1, a2, a3]
        simp
/-- The parts of a text: none, if it has not the form. -/
def parts : List UInt8 → List (List UInt8)
  | [] => []
  | c :: r => if c = 119 then (if dgs r then [r] else [])
    else if c = 114 then
      (if cutF 46 (cutB 64 r) then (if dgs (cutA 64 r) && dgs (cutA 46 (cutB 64 r)) && dgs (cutB 46 (cutB 64 r)) then [cutA 64 r, cutA 46 (cutB 64 r), cutB 46 (cutB 64 r)] else [])
       else (if dgs (cutA 64 r) && dgs (cutA 46 (cutB 64 r)) then [cutA 64 r, cutA 46 (cutB 64 r)] else []))
    else []
/-- The same, as the document walks. -/
def partsR : List UInt8 → List (List UInt8)
  | [] => []
  | c :: r => if c = 119 then (if run r ≠ [] ∧ aft r = [] then [run r] else [])
    else if c = 114 then
      (if run r ≠ [] ∧ (aft r).head? = some 64 ∧ run (aft r).tail ≠ [] then
        (if aft (aft r).tail = [] then [run r, run (aft r).tail]
         else if (aft (aft r).tail).head? = some 46 ∧ run (aft (aft r).tail).tail ≠ [] ∧ aft (aft (aft r).tail).tail = [] then [run r, run (aft r).tail, run (aft (aft r).tail).tail] else [])
       else [])
    else []
theorem dgs_iff (l : List UInt8) : dgs l = true ↔ run l ≠ [] ∧ aft l = [] := by
  unfold dgs run aft
  constructor
  · intro h
    simp only [Bool.and_eq_true, Bool.not_eq_true', List.isEmpty_eq_false_iff] at h
    obtain ⟨h1, h2⟩ := h
    have e : l.dropWhile digB = [] := by
      rw [dw_nil]
      exact fun x hx => List.all_eq_true.1 h2 x hx
    refine ⟨?_, e⟩
    intro h3
    have := List.takeWhile_append_dropWhile (p := digB) (l := l)
    rw [h3, e] at this
    exact h1 this.symm
  · rintro ⟨h1, h2⟩
    have e : l.takeWhile digB = l := by
      have := List.takeWhile_append_dropWhile (p := digB) (l := l)
      rw [h2, List.append_nil] at this
      exact this
    rw [e] at h1
    simp only [Bool.and_eq_true, Bool.not_eq_true', List.isEmpty_eq_false_iff]
    refine ⟨h1, ?_⟩
    have := run_all l
    unfold run at this
    rwa [e] at this
theorem run_of_dgs {l : List UInt8} (h : dgs l = true) : run l = l := by
  have h2 := ((dgs_iff l).1 h).2
  have := run_aft l
  rwa [h2, List.append_nil] at this
/-- A list of digits, then a byte that is none. -/
theorem run_cat : ∀ (a b : List UInt8) (c : UInt8), a.all digB = true → digB c = false → run (a ++ c :: b) = a ∧ aft (a ++ c :: b) = c :: b
  | [], b, c, _, hc => by unfold run aft; simp [hc]
  | x :: a, b, c, ha, hc => by
    rw [List.all_cons, Bool.and_eq_true] at ha
    obtain ⟨i1, i2⟩ := run_cat a b c ha.2 hc
    unfold run aft at *
    simp [ha.1, i1, i2]
theorem cut_eq : ∀ (l : List UInt8) (c : UInt8), cutF c l = true → l = cutA c l ++ c :: cutB c l
  | [], c, h => by cases h
  | x :: l, c, h => by
    unfold cutF at h
    unfold cutA cutB
    by_cases e : x = c
    · subst e; simp
    · rw [if_neg e] at h ⊢
      rw [if_neg e]
      rw [List.cons_append, ← cut_eq l c h]
theorem cut_non : ∀ (l : List UInt8) (c : UInt8), cutF c l = false → cutA c l = l ∧ cutB c l = []
  | [], c, _ => ⟨rfl, rfl⟩
  | x :: l, c, h => by
    unfold cutF at h
    unfold cutA cutB
    by_cases e : x = c
    · rw [if_pos e] at h; cases h
    · rw [if_neg e] at h
      obtain ⟨i1, i2⟩ := cut_non l c h
      rw [if_neg e, if_neg e, i1, i2]
      exact ⟨rfl, rfl⟩
/-- A byte that ends the digits ahead is where it is cut. -/
theorem cut_run : ∀ (l : List UInt8) (c : UInt8), digB c = false → (aft l).head? = some c → cutF c l = true ∧ cutA c l = run l ∧ cutB c l = (aft l).tail
  | [], c, _, h => by cases h
  | x :: l, c, hc, h => by
    unfold run aft at *
    by_cases hx : digB x = true
    · have e : ¬ x = c := fun e => by rw [e, hc] at hx; cases hx
      rw [List.dropWhile_cons_of_pos hx] at h ⊢
      rw [List.takeWhile_cons_of_pos hx]
      obtain ⟨i1, i2, i3⟩ := cut_run l c hc (by unfold aft; exact h)
      unfold run at i2
      unfold aft at i3
      unfold cutF cutA cutB
      rw [if_neg e, if_neg e, if_neg e, i1, i2, i3]
      exact ⟨rfl, rfl, rfl⟩
    · rw [List.dropWhile_cons_of_neg hx] at h ⊢
      rw [List.takeWhile_cons_of_neg hx]
      have e : x = c := Option.some.inj h
      unfold cutF cutA cutB
      rw [if_pos e, if_pos e, if_pos e]
      exact ⟨rfl, rfl, rfl⟩
theorem dgs_cutA {l : List UInt8} {c : UInt8} (hc : digB c = false) (hF : cutF c l = true) (h : dgs (cutA c l) = true) : run l = cutA c l ∧ aft l = c :: cutB c l := by
  have hall : (cutA c l).all digB = true := by unfold dgs at h; rw [Bool.and_eq_true] at h; exact h.2
  have := run_cat (cutA c l) (cutB c l) c hall hc
  rw [← cut_eq l c hF] at this
  exact this
theorem dgs_run {l : List UInt8} (h : run l ≠ []) : dgs (run l) = true := by
  unfold dgs
  rw [run_all]
  cases hr : run l with
  | nil => exact absurd hr h
  | cons => rfl
theorem dig64 : digB 64 = false := by decide
theorem dig46 : digB 46 = false := by decide
/-- The two ways are one. -/
theorem parts_eq (l : List UInt8) : parts l = partsR l := by
  cases l with
  | nil => rfl
  | cons c r =>
    unfold parts partsR
    dsimp only
    by_cases h1 : c = 119
    · rw [if_pos h1, if_pos h1]
      by_cases h2 : dgs r = true
      · rw [if_pos h2, if_pos ((dgs_iff r).1 h2), run_of_dgs h2]
      · rw [if_neg h2, if_neg (fun h => h2 ((dgs_iff r).2 h))]
    rw [if_neg h1, if_neg h1]
    by_cases h2 : c = 114
    case neg => rw [if_neg h2, if_neg h2]
    rw [if_pos h2, if_pos h2]
    clear h1 h2
    by_cases hR : run r ≠ [] ∧ (aft r).head? = some 64 ∧ run (aft r).tail ≠ []
    · rw [if_pos hR]
      obtain ⟨r1, r2, r3⟩ := hR
      obtain ⟨c1, c2, c3⟩ := cut_run r 64 dig64 r2
      rw [c2, c3]
      have d1 := dgs_run r1
      generalize (aft r).tail = v at r3 c3 ⊢
      by_cases hv : aft v = []
      · rw [if_pos hv]
        have hvd : dgs v = true := (dgs_iff v).2 ⟨r3, hv⟩
        have hno : cutF 46 v = false := by
          cases hF : cutF 46 v with
          | false => rfl
          | true =>
            exfalso
            have e := cut_eq v 46 hF
            have hall : v.all digB = true := by unfold dgs at hvd; rw [Bool.and_eq_true] at hvd; exact hvd.2
            rw [e, List.all_append, List.all_cons, dig46] at hall
            simp at hall
        obtain ⟨e1, e2⟩ := cut_non v 46 hno
        rw [hno, if_neg (by decide), e1, d1, hvd, run_of_dgs hvd]
        rfl
      · rw [if_neg hv]
        by_cases h3 : (aft v).head? = some 46 ∧ run (aft v).tail ≠ [] ∧ aft (aft v).tail = []
        · rw [if_pos h3]
          obtain ⟨h4, h5, h6⟩ := h3
          obtain ⟨k1, k2, k3⟩ := cut_run v 46 dig46 h4
          have d3 : dgs (aft v).tail = true := (dgs_iff _).2 ⟨h5, h6⟩
          rw [k1, if_pos rfl, k2, k3, d1, dgs_run r3, d3, run_of_dgs d3]
          rfl
        · rw [if_neg h3]
          by_cases hF : cutF 46 v = true
          · rw [hF, if_pos rfl]
            rw [if_neg]
            intro h
            simp only [Bool.and_eq_true] at h
            obtain ⟨⟨_, g2⟩, g3⟩ := h
            obtain ⟨q1, q2⟩ := dgs_cutA dig46 hF g2
            apply h3
            rw [q2]
            exact ⟨rfl, (dgs_iff _).1 g3⟩
          · have hF' : cutF 46 v = false := by simpa using hF
            rw [hF', if_neg (by decide)]
            obtain ⟨e1, _⟩ := cut_non v 46 hF'
            rw [e1, if_neg]
            intro h
            simp only [Bool.and_eq_true] at h
            exact hv ((dgs_iff v).1 h.2).2
    · rw [if_neg hR]
      have key : dgs (cutA 64 r) = true → dgs (cutA 46 (cutB 64 r)) = true → False := by
        intro g1 g2
        by_cases hF : cutF 64 r = true
        · obtain ⟨q1, q2⟩ := dgs_cutA dig64 hF g1
          apply hR
          rw [q2]
          refine ⟨?_, rfl, ?_⟩
          · rw [q1]
            intro e
            rw [e] at g1
            cases g1
          · show run (cutB 64 r) ≠ []
            by_cases hG : cutF 46 (cutB 64 r) = true
            · obtain ⟨p1, _⟩ := dgs_cutA dig46 hG g2
              rw [p1]
              intro e
              rw [e] at g2
              cases g2
            · obtain ⟨e1, _⟩ := cut_non _ 46 (by simpa using hG)
              rw [e1] at g2
              exact ((dgs_iff _).1 g2).1
        · obtain ⟨_, e2⟩ := cut_non _ 64 (by simpa using hF)
          rw [e2] at g2
          cases g2
      split
      · rw [if_neg]
        intro h
        simp only [Bool.and_eq_true] at h
        exact key h.1.1 h.1.2
      · rw [if_neg]
        intro h
        simp only [Bool.and_eq_true] at h
        exact key h.1 h.2
/-- What is trimmed of its digits is empty just if there are only digits. -/
theorem trim_digits (l : List UInt8) : (trimS l [48, 49, 50, 51, 52, 53, 54, 55, 56, 57]).isEmpty = l.all digB := by
  have hcs : ∀ c : UInt8, ([48, 49, 50, 51, 52, 53, 54, 55, 56, 57] : List UInt8).contains c = digB c := fun c => by
    rw [Bool.eq_iff_iff]
    unfold digB
    simp [← UInt8.toNat_inj]
    omega
  unfold trimS trimLeftS trimRightS
  have hf : (fun x => ([48, 49, 50, 51, 52, 53, 54, 55, 56, 57] : List UInt8).contains x) = digB := funext hcs
  rw [hf]
  rw [Bool.eq_iff_iff, List.isEmpty_iff, dw_nil, List.all_eq_true]
  constructor
  · intro h x hx
    by_cases hr : x ∈ (l.reverse.dropWhile digB).reverse
    · exact h x hr
    · have e := List.takeWhile_append_dropWhile (p := digB) (l := l.reverse)
      have hx2 : x ∈ l.reverse := List.mem_reverse.2 hx
      rw [← e, List.mem_append] at hx2
      rcases hx2 with h1 | h1
      · exact mem_tw h1
      · exact absurd (List.mem_reverse.2 h1) hr
  · intro h x hx
    refine h x ?_
    have := (List.dropWhile_sublist digB).subset (List.mem_reverse.1 hx)
    exact List.mem_reverse.1 this
end Go.Proofs.YtaogofjnpnheeaaGreatDoor.Op
