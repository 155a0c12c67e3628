/-
  How an edge and a version that came in are read, and read again behind the call. Not a statement of the seat.
-/
import Derived.Test.YtepfgaiidmbklaaBase
import Derived.Lib.SmallJoins
namespace Go.Proofs.Ytepfgaiidmbklaa.Pk
open Go.ChangeShapes Go.WideShapes Go.ChangeAt Go.RowKit Go.Joins Base
theorem own : ownKnob Try.prog.godebug = none := by kernel_rfl
theorem cellsOfE : Try.prog.cellsOf 23 = 4 := by kernel_rfl
theorem cellsOfV : Try.prog.cellsOf 37 = 3 := by kernel_rfl
section
variable {H : Type} {enc : TypeId × Value → H} {w : World} {base : Nat} {spare : Nat → Bool} {held : Bool}
theorem open_edge {r : Reach} {b0 : Nat} {v : Value} {d : DataW H} {p : List MemPlace} (hv : Value.okWide Try.prog w r b0 23 v) (h : DataW.Trod enc Try.prog w base spare held 23 v d p) :
    ∃ f t k y : Int, v = .agg #[.int .i64 f, .int .i64 t, .int .i64 k, .int .i64 y] ∧ d = .agg [.lit (.int .i64 f), .lit (.int .i64 t), .lit (.int .i64 k), .lit (.int .i64 y)] ∧ p = [] ∧
      (Lit.int .i64 f).wf = true ∧ (Lit.int .i64 t).wf = true ∧ (Lit.int .i64 k).wf = true ∧ (Lit.int .i64 y).wf = true := by
  obtain ⟨c0, c1, c2, c3, y0, y1, y2, y3, m, rfl, rfl, rfl, h0, h1, h2, h3⟩ := open_agg4 Try.underlying23 (by kernel_rfl) cellsOfE hv h
  obtain ⟨f, e0, rfl, w0⟩ := DataW.trod_int Try.underlying3 h0
  obtain ⟨t, e1, rfl, w1⟩ := DataW.trod_int Try.underlying3 h1
  obtain ⟨k, e2, rfl, w2⟩ := DataW.trod_int Try.underlying3 h2
  obtain ⟨y, e3, rfl, w3⟩ := DataW.trod_int Try.underlying3 h3
  simp at e0 e1 e2 e3
  subst e0 e1 e2 e3
  exact ⟨f, t, k, y, rfl, rfl, rfl, w0, w1, w2, w3⟩
theorem shut_edge {f t k y : Int} (w0 : (Lit.int .i64 f).wf = true) (w1 : (Lit.int .i64 t).wf = true) (w2 : (Lit.int .i64 k).wf = true) (w3 : (Lit.int .i64 y).wf = true) :
    DataW.Trod enc Try.prog w base spare held 23 (.agg #[.int .i64 f, .int .i64 t, .int .i64 k, .int .i64 y]) (.agg [.lit (.int .i64 f), .lit (.int .i64 t), .lit (.int .i64 k), .lit (.int .i64 y)]) [] :=
  shut_agg4 (y0 := (.lit (.int .i64 f), [])) (y1 := (.lit (.int .i64 t), [])) (y2 := (.lit (.int .i64 k), [])) (y3 := (.lit (.int .i64 y), [])) Try.underlying23 (by kernel_rfl) cellsOfE
    ⟨1, by simp [DataW.trod, Try.underlying3, w0]⟩ ⟨1, by simp [DataW.trod, Try.underlying3, w1]⟩ ⟨1, by simp [DataW.trod, Try.underlying3, w2]⟩ ⟨1, by simp [DataW.trod, Try.underlying3, w3]⟩
theorem open_version {r : Reach} {b0 : Nat} {v : Value} {d : DataW H} {p : List MemPlace} (hv : Value.okWide Try.prog w r b0 37 v) (h : DataW.Trod enc Try.prog w base spare held 37 v d p) :
    ∃ t y n : Int, v = .agg #[.int .i64 t, .int .i64 y, .int .i64 n] ∧ d = .agg [.lit (.int .i64 t), .lit (.int .i64 y), .lit (.int .i64 n)] ∧ p = [] ∧
      (Lit.int .i64 t).wf = true ∧ (Lit.int .i64 y).wf = true ∧ (Lit.int .i64 n).wf = true := by
  obtain ⟨c0, c1, c2, y0, y1, y2, m, rfl, rfl, rfl, h0, h1, h2⟩ := open_agg3 Try.underlying37 (by kernel_rfl) cellsOfV hv h
  obtain ⟨f, e0, rfl, w0⟩ := DataW.trod_int Try.underlying3 h0
  obtain ⟨t, e1, rfl, w1⟩ := DataW.trod_int Try.underlying3 h1
  obtain ⟨k, e2, rfl, w2⟩ := DataW.trod_int Try.underlying3 h2
  simp at e0 e1 e2
  subst e0 e1 e2
  exact ⟨f, t, k, rfl, rfl, rfl, w0, w1, w2⟩
theorem shut_version {t y n : Int} (w0 : (Lit.int .i64 t).wf = true) (w1 : (Lit.int .i64 y).wf = true) (w2 : (Lit.int .i64 n).wf = true) :
    DataW.Trod enc Try.prog w base spare held 37 (.agg #[.int .i64 t, .int .i64 y, .int .i64 n]) (.agg [.lit (.int .i64 t), .lit (.int .i64 y), .lit (.int .i64 n)]) [] :=
  shut_agg3 (y0 := (.lit (.int .i64 t), [])) (y1 := (.lit (.int .i64 y), [])) (y2 := (.lit (.int .i64 n), [])) Try.underlying37 (by kernel_rfl) cellsOfV
    ⟨1, by simp [DataW.trod, Try.underlying3, w0]⟩ ⟨1, by simp [DataW.trod, Try.underlying3, w1]⟩ ⟨1, by simp [DataW.trod, Try.underlying3, w2]⟩
end
end Go.Proofs.Ytepfgaiidmbklaa.Pk
