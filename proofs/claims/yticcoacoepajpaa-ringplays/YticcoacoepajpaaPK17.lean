/-
  Contract: view.Index.
-/
import Derived.Test.YticcoacoepajpaaPK3
import Derived.Test.YticcoacoepajpaaPK16
import Derived.Test.YticcoacoepajpaaPK7
import Derived.Deep.OwnRows
namespace Go.Proofs.Yticcoacoepajpaa.V
open Go.RowKit Go.Shelf
attribute [local go_sem] Oper.semAt_some


end Go.Proofs.Yticcoacoepajpaa.V
