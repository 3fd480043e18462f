/-
  Plain mathematics of chapter 1: no program here. (wip/tpl: a template; gen.py fills it for a seat.)
-/
import Derived.WalkKit
namespace Go.Proofs.Yticcoacoepajpaa.V

end Go.Proofs.Yticcoacoepajpaa.V
