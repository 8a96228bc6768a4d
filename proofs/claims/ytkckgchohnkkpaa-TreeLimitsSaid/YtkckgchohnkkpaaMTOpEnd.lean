/- The landed end of a stretch: what it kept, its text, and what is gone go behind what was made, and another one begins. Condition: no more than 2^38 parts and 2^40 bytes. -/
import Derived.Test.YtkckgchohnkkpaaMTOpStretch
/- The landed end of a stretch: what it kept, its text, and what is gone go behind what was made, and another one begins. Condition: no more than 2^38 parts and 2^40 bytes. -/
namespace Go.Proofs.Ytkckgchohnkkpaa
open Go.RowKit Go.Deep Go.Lib

end Go.Proofs.Ytkckgchohnkkpaa
