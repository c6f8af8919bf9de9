/- Layer 12 (revoke): the landed program's functions do what they must. -/
import Derived.Test.YtfmmpmpafgbidaaRvI
namespace Go.Proofs.Ytfmmpmpafgbidaa.Rv
open Go.RowKit Rec

theorem oks : Oks where
  right A n c l w h _ _ _ hn := right_any A n c l w h hn
  has A n c l t nw w h _ _ _ hr := has_any A n c l t nw w h (by have := h.len; have := hr.len; omega) hr.asc
  prune A n c l nw w h hnil _ _ hn := prune_any A n c l nw w h hnil hn
  add A n c l x w h hnil _ _ hn := add_any A n c l x w h hnil hn
  merge A A' n n' c c' a b w h hnil hnc hcm hn h' hnil' hnc' hcm' hn' := merge_any A A' n n' c c' a b w h hnil hnc hcm hn h' hnil' hnc' hcm' hn'
end Go.Proofs.Ytfmmpmpafgbidaa.Rv
