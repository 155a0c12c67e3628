/-
  The library contracts that this program can use, at its own numbers, by the shelf. Not a statement of the seat.
-/
import Derived.Test.YtbgepeokadmemaaProg
namespace Go.Proofs
end Go.Proofs
