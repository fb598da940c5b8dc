import Derived.Test.YtogkodjlbdlgjaaGreatDrawL2
namespace Go.PM
open Go.RowKit
def vlen : Value → Nat
  | .slice _ n _ => n
  | _ => 0
end Go.PM
namespace Go.Proofs.YtogkodjlbdlgjaaGreat
open Go.RowKit Go.PM
attribute [local go_sem] Oper.semAt_some

end Go.Proofs.YtogkodjlbdlgjaaGreat
