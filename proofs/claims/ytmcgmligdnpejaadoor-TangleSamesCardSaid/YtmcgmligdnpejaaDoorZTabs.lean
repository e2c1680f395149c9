/- The package variable of chapter 6, as memory. -/
import Derived.Test.YtmcgmligdnpejaaDoorSymBase
namespace Go.Proofs
open Go Go.Ev

def memL (l : List Value) : Nat → Option Value := fun j => l[j]?
def tabM : Mem := fun b j => match Nat.beq b 0 with
  | true => memL [I 0, I 1] j
  | false => none

end Go.Proofs
