/-
  Plain facts on a transaction's text: its words bear no space; two that are right have one text just if they are one. Not a statement of the seat.
-/
import Derived.Test.YtaogofjnpnheeaaGreatDoorHead
import Derived.Test.YtaogofjnpnheeaaGreatDoorOpSame
import Derived.Test.YtaogofjnpnheeaaGreatDoorTxWords
namespace Go.Proofs.YtaogofjnpnheeaaGreatDoor.Tx
open Go.Lib Nu F
open Go.Proofs.YtaogofjnpnheeaaGreatDoor.Op (rightO textO)
theorem digit_plain {d : Nat} (h : d < 10) : UInt8.ofNat (48 + d) ≠ 32 := fun e => by
  have h1 : (UInt8.ofNat (48 + d)).toNat = 48 + d := UInt8.toNat_ofNat_of_lt' (show 48 + d < UInt8.size by have : UInt8.size = 256 := rfl; omega)
  rw [e] at h1
  have h2 : (32 : UInt8).toNat = 32 := rfl
  omega
theorem dec_plain (u : Nat) : Wd.Plain (decDigits u) := by
  induction u using Nat.strongRecOn with
  | _ u ih =>
    by_cases h : u < 10
    · rw [decDigits, dif_pos h]
      intro x hx
      rw [List.mem_singleton.1 hx]
      exact digit_plain h
    · rw [decDigits, dif_neg h]
      intro x hx
      rcases List.mem_append.1 hx with hx | hx
      · exact ih (u / 10) (by omega) x hx
      · rw [List.mem_singleton.1 hx]
        exact digit_plain (by omega)
theorem itoa_plain (n : Int) : Wd.Plain (itoa n) := by
  intro c hc
  unfold itoa at hc
  split at hc
  · rcases List.mem_cons.1 hc with h | h
    · rw [h]; decide
    · exact dec_plain _ c h
  · exact dec_plain _ c hc
theorem plain_cons {c : UInt8} {l : List UInt8} (hc : c ≠ 32) (h : Wd.Plain l) : Wd.Plain (c :: l) := fun x hx => by
  rcases List.mem_cons.1 hx with rfl | hx
  · exact hc
  · exact h x hx
theorem plain_app {a b : List UInt8} (ha : Wd.Plain a) (hb : Wd.Plain b) : Wd.Plain (a ++ b) := fun x hx => by
  rcases List.mem_append.1 hx with hx | hx
  · exact ha x hx
  · exact hb x hx
theorem textO_plain (x : Opr) : Wd.Plain (textO x) := by
  obtain ⟨r, k, t, n⟩ := x
  cases hR : rightO ⟨r, k, t, n⟩ with
  | false =>
    have : textO ⟨r, k, t, n⟩ = [] := by unfold textO; rw [hR]; rfl
    rw [this]
    exact fun x hx => by cases hx
  | true =>
    cases r with
    | false =>
      have : textO ⟨false, k, t, n⟩ = 119 :: itoa k := by unfold textO; rw [hR]; rfl
      rw [this]
      exact plain_cons (by decide) (itoa_plain k)
    | true =>
      have : textO ⟨true, k, t, n⟩ = if t = 0 then 114 :: (itoa k ++ 64 :: itoa t) else 114 :: (itoa k ++ 64 :: (itoa t ++ 46 :: itoa n)) := by unfold textO; rw [hR]; rfl
      rw [this]
      split
      · exact plain_cons (by decide) (plain_app (itoa_plain k) (plain_cons (by decide) (itoa_plain t)))
      · exact plain_cons (by decide) (plain_app (itoa_plain k) (plain_cons (by decide) (plain_app (itoa_plain t) (plain_cons (by decide) (itoa_plain n)))))
theorem endB_plain (d : Bool) : Wd.Plain (endB d) := by
  intro x hx
  unfold endB at hx
  split at hx <;> (rw [List.mem_singleton] at hx; rw [hx]; decide)
theorem words_plain (id : Int) (d : Bool) (l : List Opr) : ∀ w ∈ wordsT id d l, Wd.Plain w := by
  intro w hw
  unfold wordsT at hw
  rcases List.mem_cons.1 hw with rfl | hw
  · exact itoa_plain id
  · rcases List.mem_cons.1 hw with rfl | hw
    · exact endB_plain d
    · obtain ⟨x, _, rfl⟩ := List.mem_map.1 hw
      exact textO_plain x
theorem text_ended (id : Int) (d : Bool) (l : List Opr) : textT id d l ++ [32] = Wd.ended (wordsT id d l) := by
  unfold wordsT textT
  rw [← Wd.joined_ended]
  simp [List.flatMap_map]
theorem text_words {id id2 : Int} {d d2 : Bool} {l l2 : List Opr} (h : textT id d l = textT id2 d2 l2) : wordsT id d l = wordsT id2 d2 l2 :=
  Wd.ended_inj (words_plain id d l) (words_plain id2 d2 l2) (by rw [← text_ended, ← text_ended, h])
theorem map_inj {l l2 : List Opr} (hinj : ∀ x y, rightO x = true → rightO y = true → textO x = textO y → x = y) (h1 : ∀ x ∈ l, rightO x = true) (h2 : ∀ x ∈ l2, rightO x = true) (h : l.map textO = l2.map textO) : l = l2 := by
  induction l generalizing l2 with
  | nil => cases l2 with
    | nil => rfl
    | cons y l2 => simp at h
  | cons x l ih => cases l2 with
    | nil => simp at h
    | cons y l2 =>
      simp only [List.map_cons, List.cons.injEq] at h
      rw [hinj x y (h1 x List.mem_cons_self) (h2 y List.mem_cons_self) h.1, ih (fun z hz => h1 z (List.mem_cons_of_mem _ hz)) (fun z hz => h2 z (List.mem_cons_of_mem _ hz)) h.2]
/-- Right ones have one text just if they are one. -/
theorem text_same {id id2 : Int} {d d2 : Bool} {l l2 : List Opr} (hit : itoa id = itoa id2 → id = id2) (hinj : ∀ x y, rightO x = true → rightO y = true → textO x = textO y → x = y) (h1 : ∀ x ∈ l, rightO x = true) (h2 : ∀ x ∈ l2, rightO x = true) : textT id d l = textT id2 d2 l2 ↔ (id = id2 ∧ d = d2 ∧ l = l2) := by
  constructor
  · intro h
    have hw := text_words h
    unfold wordsT at hw
    simp only [List.cons.injEq] at hw
    obtain ⟨e1, e2, e3⟩ := hw
    refine ⟨hit e1, ?_, map_inj hinj h1 h2 e3⟩
    cases d <;> cases d2 <;> simp [endB] at e2 <;> rfl
  · rintro ⟨rfl, rfl, rfl⟩
    rfl
end Go.Proofs.YtaogofjnpnheeaaGreatDoor.Tx
