/- The document's own Do, over nodes: an edit of a node that is there. Conditions: as RefNDo's; texts of no more than 2^30 bytes. (Merged of 3 texts.) -/
import Derived.Test.YtjpjdkdbgjipnaaDoorV14
import Derived.Test.YtjpjdkdbgjipnaaDoorV40
import Derived.Test.YtjpjdkdbgjipnaaDoorV43
import Derived.Test.YtjpjdkdbgjipnaaDoorV17
import Derived.BigQuiet
namespace Go.Proofs.YtjpjdkdbgjipnaaDoor
open Go.RowKit Go.Deep
end Go.Proofs.YtjpjdkdbgjipnaaDoor
