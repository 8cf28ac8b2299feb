/-
  The small functions of the model, together.
-/
import Derived.Test.YthdldkbeccmcmabKyS
import Derived.Test.YthdldkbeccmcmabPlIn
import Derived.Test.YthdldkbeccmcmabSpecCp
import Derived.Test.YthdldkbeccmcmabAllIn
namespace Go.Proofs.Ythdldkbeccmcmab

theorem small_functions : True := True.intro

end Go.Proofs.Ythdldkbeccmcmab
