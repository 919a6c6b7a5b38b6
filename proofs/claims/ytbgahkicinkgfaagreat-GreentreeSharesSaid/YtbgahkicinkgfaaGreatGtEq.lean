/-
  EqualLists at int, sameGreen, sameTree and sameArena, by their contracts.
-/
import Derived.Test.YtbgahkicinkgfaaGreatGtWf
namespace Go.Proofs.YtbgahkicinkgfaaGreat
open Go.RowKit

end Go.Proofs.YtbgahkicinkgfaaGreat
