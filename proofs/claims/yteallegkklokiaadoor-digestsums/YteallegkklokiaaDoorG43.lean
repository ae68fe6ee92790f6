/-
  Digest: DigestStreams' walk and the reference's Digest together.
-/
import Derived.Test.YteallegkklokiaaDoorG42
import Derived.Test.YteallegkklokiaaDoorG37
namespace Go.Proofs.YteallegkklokiaaDoor
open Go.RowKit
theorem Digest_all : DigestC := Digest_ok
end Go.Proofs.YteallegkklokiaaDoor
