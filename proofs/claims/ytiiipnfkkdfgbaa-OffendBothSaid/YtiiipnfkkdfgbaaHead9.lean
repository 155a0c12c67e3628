/-
  Contracts of small functions, several texts laid into one. Not a statement of the seat.
-/
import Derived.Test.YtiiipnfkkdfgbaaHead8
import Derived.Test.YtiiipnfkkdfgbaaHead16
import Derived.Test.YtiiipnfkkdfgbaaHiQr
import Derived.Test.YtiiipnfkkdfgbaaOfL
import Derived.Test.YtiiipnfkkdfgbaaHead1
namespace Go.Proofs.Ytiiipnfkkdfgbaa.Off
open Go.ChangeShapes Go.WideShapes Go.ChangeAt Go.RowKit Base F Tx Hi Go.Sort
end Go.Proofs.Ytiiipnfkkdfgbaa.Off
namespace Go.Proofs.Ytiiipnfkkdfgbaa.Off
open Go.ChangeShapes Go.WideShapes Go.ChangeAt Go.RowKit Base F Tx Hi Go.Sort
end Go.Proofs.Ytiiipnfkkdfgbaa.Off
namespace Go.Proofs.Ytiiipnfkkdfgbaa.Off
open Go.ChangeShapes Go.WideShapes Go.ChangeAt Go.RowKit Base F Tx Hi
def LH : Hist := ⟨[⟨1, false, [⟨false, 5, 0, 0⟩, ⟨false, 5, 0, 0⟩]⟩, ⟨2, true, [⟨true, 5, 0, 0⟩, ⟨true, 5, 1, 1⟩]⟩], []⟩
def LH2 : Hist := ⟨LH.txs, [⟨1, []⟩]⟩
def LB : Bad := ⟨2, 1, 1, 5, 1⟩
theorem LH_sm : HistSm LH := by
  refine ⟨fun t ht => ?_, (fun o ho => by cases ho), by decide, fun t ht => ?_, (fun o ho => by cases ho)⟩
  · simp only [LH, List.mem_cons, List.not_mem_nil, or_false] at ht
    rcases ht with rfl | rfl
    · refine ⟨by unfold i64; simp, fun x hx => ?_⟩
      simp only [List.mem_cons, List.not_mem_nil, or_false] at hx
      rcases hx with rfl | rfl <;> (unfold Opr.ok; dsimp only; omega)
    · refine ⟨by unfold i64; simp, fun x hx => ?_⟩
      simp only [List.mem_cons, List.not_mem_nil, or_false] at hx
      rcases hx with rfl | rfl <;> (unfold Opr.ok; dsimp only; omega)
  · simp only [LH, List.mem_cons, List.not_mem_nil, or_false] at ht
    rcases ht with rfl | rfl <;> simp
theorem LH2_sm : HistSm LH2 := by
  refine ⟨LH_sm.txs, fun o ho => ?_, LH_sm.num, LH_sm.ops, fun o ho => ?_⟩ <;>
  · simp only [LH2, List.mem_cons, List.not_mem_nil, or_false] at ho
    subst ho
    first
      | exact ⟨by unfold i64; simp, fun x hx => by cases hx⟩
      | simp
theorem f_of2 : badsOf LH 2 = [LB] := by rfl
theorem f_of3 : badsOf LH 3 = [LB] := by rfl
theorem ords_nil (W : World) : Ords W (.slice none 0 0) [] := ⟨⟨none, 0, rfl, Nat.le_refl _, fun _ => rfl, by simp⟩, fun k hk => absurd hk (by simp)⟩
theorem txs_lit2 {W : World} {g g0 g1 : Nat} (a b : Txn) (e : W.heap[g]? = some (.cells #[.int .i64 a.id, .bool a.dn, .slice (some ⟨g0, 0, none⟩) a.ops.length a.ops.length, .int .i64 b.id, .bool b.dn, .slice (some ⟨g1, 0, none⟩) b.ops.length b.ops.length] 36)) (h0 : Oprs 0 W (.slice (some ⟨g0, 0, none⟩) a.ops.length a.ops.length) a.ops) (h1 : Oprs 0 W (.slice (some ⟨g1, 0, none⟩) b.ops.length b.ops.length) b.ops) : Txs W (.slice (some ⟨g, 0, none⟩) 2 2) [a, b] := by
  refine ⟨⟨_, _, rfl, by simp, (fun h => by cases h), by simp⟩, fun k hk => ?_⟩
  match k, hk with
  | 0, _ => exact ⟨g, 0, 2, rfl, heap_lt e, by simp [World.cell?, e], by simp [World.cell?, e], .slice (some ⟨g0, 0, none⟩) a.ops.length a.ops.length, by simp [World.cell?, e], ⟨_, _, rfl, Nat.le_refl _⟩, h0⟩
  | 1, _ => exact ⟨g, 0, 2, rfl, heap_lt e, by simp [World.cell?, e], by simp [World.cell?, e], .slice (some ⟨g1, 0, none⟩) b.ops.length b.ops.length, by simp [World.cell?, e], ⟨_, _, rfl, Nat.le_refl _⟩, h1⟩
theorem ords_lit {W : World} {g : Nat} (e : W.heap[g]? = some (.cells #[.int .i64 1, .slice none 0 0] 45)) : Ords W (.slice (some ⟨g, 0, none⟩) 1 1) LH2.ords := by
  refine ⟨⟨_, _, rfl, Nat.le_refl _, (fun h => by cases h), by decide⟩, fun k hk => ?_⟩
  obtain rfl : k = 0 := by simp only [LH2, List.length_cons, List.length_nil] at hk; omega
  exact ⟨g, 0, 1, rfl, heap_lt e, by simp [World.cell?, e, LH2], .slice none 0 0, by simp [World.cell?, e], ⟨none, 0, rfl, Nat.le_refl _⟩, Lst.Ints.nil⟩
theorem own_bad (zs : List Bad) {W : World} {g : Nat} {vs : Array Value} (hv : vs = (zs.flatMap Bad.vals).toArray) (h : W.heap[g]? = some (.cells vs 55)) (hl : zs.length ≤ 65536) (m : Nat) (hm : m = zs.length) : Bads 0 W (.slice (some ⟨g, 0, none⟩) m m) zs := by
  subst hm hv
  have : OwnBad 0 W (.slice (some ⟨g, 0, none⟩) zs.length zs.length) zs := ⟨by rw [bad_flat_len], .inr ⟨g, zs.length, (zs.flatMap Bad.vals).toArray, rfl, Nat.zero_le _, h, Nat.le_refl _, by simp only [maxLen]; omega, by rw [List.size_toArray, bad_flat_len], by rw [List.toList_toArray, ← bad_flat_len, List.take_length]⟩⟩
  exact this.list (by omega)
theorem of_at {v u : Value} {h : Hist} {w : World} (hh : HistV w v u h) (hs : HistSm h) (ph : Int) (l : List Bad) (hl : badsOf h ph = l) : Calls Try.prog 17 #[.agg #[v, u], .int .i64 ph] w (BadsP l w) := hl ▸ Of_any w hh hs ph
theorem of_len {v u : Value} {h : Hist} {w : World} (hh : HistV w v u h) (hs : HistSm h) (ph : Int) (n : Nat) (hl : (badsOf h ph).length = n) : Calls Try.prog 17 #[.agg #[v, u], .int .i64 ph] w (fun e w' => ∃ p c, e = .returned (.slice p n c) ∧ Aft w w') :=
  (Of_any w hh hs ph).mono fun e w' ⟨v1, he, _, ⟨p, c, hv⟩, ha⟩ => ⟨p, c, by rw [he, hv, hl], ha⟩
theorem ofKey_len {v u : Value} {h : Hist} {w : World} (hh : HistV w v u h) (hs : HistSm h) (ph key : Int) (n : Nat) (hl : ((badsOf h ph).filter fun b => b.k == key).length = n) : Calls Try.prog 36 #[.agg #[v, u], .int .i64 ph, .int .i64 key] w (fun e w' => ∃ p c, e = .returned (.slice p n c) ∧ Aft w w') :=
  (OfKey_any w hh hs ph key).mono fun e w' ⟨v1, he, _, ⟨p, c, hv⟩, ha⟩ => ⟨p, c, by rw [he, hv, hl], ha⟩
theorem k_same {w : World} {v u : Value} {xs ys : List Bad} (h : Bads 0 w v xs) (hu : Bads 0 w u ys) (hs : sameBs xs ys = true) : Calls Try.prog 35 #[v, u] w (fun e w' => e = .returned (.bool true) ∧ Aft w w') := hs ▸ rSame_any w h hu
theorem k_is {v u : Value} {h : Hist} {w : World} (b : Bad) (hh : HistV w v u h) (hs : HistSm h) (ph : Int) {r : Bool} (hr : inB (badsOf h ph) b = r) : Calls Try.prog 37 #[.agg #[v, u], .int .i64 ph, badV b] w (fun e w' => e = .returned (.bool r) ∧ Aft w w') := hr ▸ Is_any w hh hs ph b
theorem k_less {w : World} (a b : Bad) {r : Bool} (hr : lessB a b = r) : Calls Try.prog 18 #[badV a, badV b] w (fun e w' => e = .returned (.bool r) ∧ Aft w w') := hr ▸ Less_any a b w
end Go.Proofs.Ytiiipnfkkdfgbaa.Off
