/-
  Digest: DigestStreams' walk and the reference's Digest together.
-/
import Derived.Test.YtgipmjpkaemdkaaDoorG42
import Derived.Test.YtgipmjpkaemdkaaDoorG37
namespace Go.Proofs.YtgipmjpkaemdkaaDoor
open Go.RowKit
theorem Digest_all : DigestC := Digest_ok
end Go.Proofs.YtgipmjpkaemdkaaDoor
