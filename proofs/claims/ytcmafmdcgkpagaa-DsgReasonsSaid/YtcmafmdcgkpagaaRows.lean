/-
  No cell of these rows narrows 'for every input' (looked for: loops, veiled, ifaces, maps, wideKeys, modest, calm, conditions, laid).
  DERIVED. THE GIVEN ROWS OF THIS SEAT. 2 by the template 'for every input the law returns true; each argument reads behind the call as it read before'; 0 by the template 'total and deterministic' (their statements: YtcmafmdcgkpagaaTotals.lean).
  GIVEN WITH THE SEED: the statements are not yours to turn. If you find one false, say at which input.
  Laid BY PROGRAM, IN A SANDBOX (cutbox-rows.mjs): the forced cells as the released guide's own fill.sh prints them over the translation 7839430d6f64edf2… (all of the seat's roots in one cut). By AI agents, Wed Nov 11 2026. No macro, syntax, notation, axiom, sorry.
-/
import Derived.Test.YtcmafmdcgkpagaaChecked
import GoSem.Claim
import GoSem.ClaimJoined
import GoSem.ClaimMapViews
import Derived.JoinedTies
import Derived.KernelRfl
namespace Go.Proofs.Ytcmafmdcgkpagaa
/- THE CELL 'sum', in the pinned program and in every row, IS THE sha256 OF THE DUMP (.gsa) THAT YtcmafmdcgkpagaaProg.lean LOADS. Nothing in Lean hashes anything: it is a label: what it is worth is what the hold of that sum in a sandbox is worth. -/
noncomputable def Try.pinned : Pinned := { name := "ytcmafmdcgkpagaa", sum := "7839430d6f64edf22156a4e639e34b42419fb471fc18bb5bdfd9d70707699111", checked := Try.checked }
namespace Rows
def none {H : Type} : Left H := { results := [], args := [] }

/-- 'tenterlaw16.DsgReasons': WHATEVER THE INPUT: true; the input reads as it did. -/
def dsgReasonsSpec : ChangeSpec := { name := "dsgReasons", fn := fun _ => fun
  | [d] => { results := [.lit (.bool true)], args := [d] }
  | _ => none }
def dsgReasonsRow : OpenClaim := { program := "ytcmafmdcgkpagaa", sum := "7839430d6f64edf22156a4e639e34b42419fb471fc18bb5bdfd9d70707699111", func := "tenter/tenterlaw16.DsgReasons", spec := "dsgReasons", unfollowed := true, recurses := true, plainKeys := false, apart := false }
def DsgReasonsSaid : Prop := dsgReasonsRow.holds Try.pinned (OpenSpec.ofChange dsgReasonsSpec)

/-- ITS FALSE NEIGHBOUR: 'it returns false'. Refute it at one input. -/
def dsgReasonsWrong : ChangeSpec := { name := "dsgReasons", fn := fun _ => fun
  | [d] => { results := [.lit (.bool false)], args := [d] }
  | _ => none }
def DsgReasonsWrongFalsely : Prop := dsgReasonsRow.holds Try.pinned (OpenSpec.ofChange dsgReasonsWrong)

/-- 'tenterlaw16.DsgParts': WHATEVER THE INPUT: true; the input reads as it did. -/
def dsgPartsSpec : ChangeSpec := { name := "dsgParts", fn := fun _ => fun
  | [d] => { results := [.lit (.bool true)], args := [d] }
  | _ => none }
def dsgPartsRow : OpenClaim := { program := "ytcmafmdcgkpagaa", sum := "7839430d6f64edf22156a4e639e34b42419fb471fc18bb5bdfd9d70707699111", func := "tenter/tenterlaw16.DsgParts", spec := "dsgParts", unfollowed := true, recurses := true, plainKeys := false, apart := false }
def DsgPartsSaid : Prop := dsgPartsRow.holds Try.pinned (OpenSpec.ofChange dsgPartsSpec)

/-- ITS FALSE NEIGHBOUR: 'it returns false'. Refute it at one input. -/
def dsgPartsWrong : ChangeSpec := { name := "dsgParts", fn := fun _ => fun
  | [d] => { results := [.lit (.bool false)], args := [d] }
  | _ => none }
def DsgPartsWrongFalsely : Prop := dsgPartsRow.holds Try.pinned (OpenSpec.ofChange dsgPartsWrong)

/- THE SECOND FORM. 'bulk': how many values and letters a reading holds, each counted each time it is reached (what is shared counts as often as it is met; a slice's spare places count too). A statement '..UptoSaid' is the law's where the arguments, and the package variables that the reading takes, are together of bulk at most 1048576: NARROWER than '..Said'. Prove '..Said' where nothing that the law and all that it calls make is longer than what came in: it says more and counts as full. Else prove '..UptoSaid'. A law counts once. -/
mutual
def uptoBulk {H : Type} : DataW H → Nat
  | .lit (.string bytes) => bytes.length + 1
  | .lit _ => 1
  | .nil => 1
  | .ptr d => uptoBulk d + 1
  | .slice elems spare => uptoBulkAll elems + uptoBulkAll spare + 1
  | .agg parts => uptoBulkAll parts + 1
  | .iface _ d => uptoBulk d + 1
  | .map entries => uptoBulkEntries entries + 1
  | .held _ => 1
def uptoBulkAll {H : Type} : List (DataW H) → Nat
  | [] => 0
  | d :: r => uptoBulk d + uptoBulkAll r
def uptoBulkEntries {H : Type} : List (Lit × DataW H) → Nat
  | [] => 0
  | x :: r => uptoBulkEntry x + uptoBulkEntries r
def uptoBulkEntry {H : Type} : Lit × DataW H → Nat
  | (.string bytes, d) => bytes.length + uptoBulk d + 1
  | (_, d) => uptoBulk d + 1
 end
def uptoSmall : (H : Type) → List (DataW H) → Bool := fun _ ds => decide (uptoBulkAll ds ≤ 1048576)
def OpenSpec.upto (s : _root_.Go.ChangeSpec) : _root_.Go.OpenSpec := { _root_.Go.OpenSpec.ofChange s with cond := some uptoSmall }

/-- 'tenterlaw16.DsgReasons', WHERE WHAT IT READS IS OF BULK AT MOST 1048576: true; the input reads as it did. -/
def dsgReasonsUptoRow : OpenClaim := { program := "ytcmafmdcgkpagaa", sum := "7839430d6f64edf22156a4e639e34b42419fb471fc18bb5bdfd9d70707699111", func := "tenter/tenterlaw16.DsgReasons", spec := "dsgReasons", unfollowed := true, recurses := true, plainKeys := false, apart := false, narrowed := true }
def DsgReasonsUptoSaid : Prop := dsgReasonsUptoRow.holds Try.pinned (OpenSpec.upto dsgReasonsSpec)

/-- 'tenterlaw16.DsgParts', WHERE WHAT IT READS IS OF BULK AT MOST 1048576: true; the input reads as it did. -/
def dsgPartsUptoRow : OpenClaim := { program := "ytcmafmdcgkpagaa", sum := "7839430d6f64edf22156a4e639e34b42419fb471fc18bb5bdfd9d70707699111", func := "tenter/tenterlaw16.DsgParts", spec := "dsgParts", unfollowed := true, recurses := true, plainKeys := false, apart := false, narrowed := true }
def DsgPartsUptoSaid : Prop := dsgPartsUptoRow.holds Try.pinned (OpenSpec.upto dsgPartsSpec)

end Rows
end Go.Proofs.Ytcmafmdcgkpagaa
