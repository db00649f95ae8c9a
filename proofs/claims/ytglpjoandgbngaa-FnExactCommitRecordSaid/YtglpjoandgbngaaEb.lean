import Derived.Test.YtglpjoandgbngaaEa
namespace Go.Proofs.Ytglpjoandgbngaa
open Go.RowKit Go.Proofs.Sha

def flagOf (l r : Nat) : Nat := (if l = 0 then 0 else 1) + (if r = 0 then 0 else 2)
def encL (k v l r : List UInt8) : List UInt8 := sized k ++ sized v ++ [UInt8.ofNat (flagOf l.length r.length)] ++ l ++ r

end Go.Proofs.Ytglpjoandgbngaa
