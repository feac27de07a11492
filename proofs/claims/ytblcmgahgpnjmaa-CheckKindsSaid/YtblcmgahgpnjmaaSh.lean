/-
  (No contract of the library is wanted here.)
-/
import Derived.WalkKit
import Derived.Shelf.Small.Strs
import Derived.Shelf.Strconv.AtoiAll
import Derived.Shelf.Bytes.Small
import Derived.Shelf.Strconv.AppendIntPublic10
namespace Go.Proofs.Ytblcmgahgpnjmaa
end Go.Proofs.Ytblcmgahgpnjmaa
