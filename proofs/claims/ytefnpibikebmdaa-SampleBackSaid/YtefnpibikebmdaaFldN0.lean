/- What was written is read: plain words. -/
import Derived.Test.YtefnpibikebmdaaFldG
namespace Go.Proofs.Ytefnpibikebmdaa.Fld
open Go.RowKit Var

theorem take_put0 {n : Nat} (h : n < 18446744073709551616) (rest : List Int) : take 0 0 (put n ++ rest) = (n, (put n).length, 0) := by
  have := take_put n 0 0 rest (by simpa using h) (by omega) (.inr rfl)
  simpa using this

theorem abv_self {n : Nat} {most : Int} (h : (n : Int) ≤ most) (h2 : n ≤ 4611686018427387904) : abv n most = false := by
  unfold abv
  simp only [Bool.or_eq_false_iff, decide_eq_false_iff_not]
  omega

theorem after_put (xs ys : List Int) : after (xs ++ ys) 0 xs.length 0 = (ys, 0) := by unfold after; simp
end Go.Proofs.Ytefnpibikebmdaa.Fld
