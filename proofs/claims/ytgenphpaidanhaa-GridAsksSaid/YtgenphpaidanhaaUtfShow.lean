/- What walks through texts lean on: a function value that is called enters that function; a text has no more code points than bytes. No condition. -/
import Derived.Test.YtgenphpaidanhaaUtfWalks
import Derived.Test.YtgenphpaidanhaaUtfRel
import Derived.Shelf.Abstract
namespace Go.Proofs.Ytgenphpaidanhaa
open Go.RowKit Go.Deep

theorem enters_of_func {k : Nat} {fn : Func} {c : Code} (hf : Try.prog.funcs[k]? = some fn) (hname : (fn.name == "runtime.NumGoroutine") = false) (hb : fn.body = some c) : ∀ (args : Array Value) (w : World), (callFunc k args).run Try.prog w = .ok (.enter k args) w := Go.Proofs.enters_of hf hname hb
theorem hmf_any : ∀ (fn : Fn) (first cap : Array Value) (w : World), (Instr.makeFunc fn first cap).run Try.prog w = .ok (.func fn first cap) w := fun _ _ _ _ => rfl
end Go.Proofs.Ytgenphpaidanhaa
