/-
  What the laws ask of the program's functions.
-/
import Derived.Test.YtcpfkhodailbfaaTPDec
import Derived.Test.YtcpfkhodailbfaaTPEnc
import Derived.Test.YtcpfkhodailbfaaTPNum
import Derived.Test.YtcpfkhodailbfaaTPSame
import Derived.Test.YtcpfkhodailbfaaTAlive
namespace Go.Proofs.Ytcpfkhodailbfaa
open Go.RowKit

theorem berOk : BerOk fun _ => True where
  keep := fun _ _ _ _ => trivial
  dec := fun q A c w _ h => decode_any q A c w h
  enc := fun _ v t w _ h => encode_any v t w h
  whole := fun n w _ _ => whole_any n w
  number := fun q A c w _ h => number_any q A c w h
  same := fun _ _ x y v u w _ h k => same_any x y v u w h k
end Go.Proofs.Ytcpfkhodailbfaa
