/- The document's own place: may something stand at a name in a parent? Conditions: no more than 2^20 nodes, nodes that may be. -/
import Derived.Test.YtjpjdkdbgjipnaaDoorV43
namespace Go.Proofs.YtjpjdkdbgjipnaaDoor
open Go.RowKit Go.Deep
end Go.Proofs.YtjpjdkdbgjipnaaDoor
