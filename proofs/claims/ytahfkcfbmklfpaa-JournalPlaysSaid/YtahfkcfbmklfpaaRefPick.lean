/- The document's own pick and round of chapter 5. Condition: round's second number is positive and no more than 2^62. -/
import Derived.Test.YtahfkcfbmklfpaaRound
import Derived.Test.YtahfkcfbmklfpaaInts
namespace Go.Proofs.Ytahfkcfbmklfpaa
open Go.RowKit Go.Deep

/-- The k-th one, else 0. -/
def pk (l : List Int) (k : Nat) : Int := (l[k]?).getD 0
end Go.Proofs.Ytahfkcfbmklfpaa
