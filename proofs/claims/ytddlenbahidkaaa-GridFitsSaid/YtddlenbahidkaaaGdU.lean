/- Layer 14 (grid), the landed program: all that the laws ask of it. -/
import Derived.Test.YtddlenbahidkaaaGdH
namespace Go.Proofs.Ytddlenbahidkaaa.Gd
open Go.RowKit Rec Ints Ge

theorem oks : Oks Gr where
  keep := fun h hb => h.keep hb
  new := fun A n c l s w hr hA _ _ hn _ _ => new_any A n c l s w hr hA hn
  len := fun a l s w h _ => len_any a l s w h
  cell := fun a l s q w h _ _ _ hq => cellof_any a l s q w h hq
  near := fun a l s x y r most w h _ _ _ _ _ _ hm => near_any a l s x y r most w h hm
  nearest := fun a l s x y w h _ _ _ _ _ => nearest_any a l s x y w h
  len0 := len_nil
  cell0 := fun q w _ => cellof_nil q w
  near0 := fun x y r most w _ _ _ _ => near_nil x y r most w
end Go.Proofs.Ytddlenbahidkaaa.Gd
