/- Layer 7 (sha): the chapter's example, computed. -/
import Derived.Test.YtclidocmfdimiaaDoorShaP
import Derived.Test.YtclidocmfdimiaaDoorShaK
namespace Go.Proofs.YtclidocmfdimiaaDoor.Sha
open Go.RowKit

/-- The hash value of the bytes b, as the published standard has it. -/
def sum256 (b : List Int) : List Int := outs (blocks ks hs (pad b) ((pad b).length / 64)) 8
theorem sum256_len (b : List Int) : (sum256 b).length = 32 := by
  have h : ∀ (l : List Wd) n, (outs l n).length = 4 * n := by
    intro l n
    induction n with
    | zero => rfl
    | succ n ih => rw [outs, List.length_append, ih]; simp [out4]; omega
  exact h _ 8
set_option maxRecDepth 1000000 in
theorem abc : sum256 [97, 98, 99] = [186, 120, 22, 191, 143, 1, 207, 234, 65, 65, 64, 222, 93, 174, 34, 35, 176, 3, 97, 163, 150, 23, 122, 156, 180, 16, 255, 97, 242, 0, 21, 173] := by decide +kernel
end Go.Proofs.YtclidocmfdimiaaDoor.Sha
