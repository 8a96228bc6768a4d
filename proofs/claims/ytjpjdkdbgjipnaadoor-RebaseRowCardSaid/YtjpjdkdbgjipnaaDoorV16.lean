/- The document's own Do, over nodes: a node is created. Conditions: as RefNDo's. -/
import Derived.Test.YtjpjdkdbgjipnaaDoorV14
import Derived.Test.YtjpjdkdbgjipnaaDoorV40
import Derived.Test.YtjpjdkdbgjipnaaDoorV43
import Derived.Test.YtjpjdkdbgjipnaaDoorV17
import Derived.BigQuiet
namespace Go.Proofs.YtjpjdkdbgjipnaaDoor
open Go.RowKit Go.Deep
end Go.Proofs.YtjpjdkdbgjipnaaDoor
