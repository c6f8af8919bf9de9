/- Layer 13 (geo): cells and places in memory. -/
import Derived.Test.YthhnemanaciikaaProg
import Derived.Test.YthhnemanaciikaaGeM
import Derived.Test.YthhnemanaciikaaRec
namespace Go.Proofs.Ythhnemanaciikaa.Ge
open Go.RowKit Rec

/-- Two ints in two cells. -/
def twoS : Shape (Int × Int) where
  f p := [.int .i64 p.1, .int .i64 p.2]
  c := 2
  pos := by omega
  len _ := rfl
  one _ u hu := by
    simp only [List.mem_cons, List.not_mem_nil, or_false] at hu
    rcases hu with rfl | rfl <;> rfl
section
variable {w : World} {B n : Nat} {A : Option Addr} {l : List (Int × Int)}
theorem two_at (h : RRow twoS w B A n l) {j : Nat} (hj : j < n) : ∃ b o p, A = some ⟨b, o, none⟩ ∧ b < B ∧ l[j]? = some p ∧ w.cell? ⟨b, o + j * 2, none⟩ = some (.int .i64 p.1) ∧ w.cell? ⟨b, o + j * 2 + 1, none⟩ = some (.int .i64 p.2) := by
  obtain ⟨b, o, p, e, hb, hp, hc⟩ := h.at hj
  exact ⟨b, o, p, e, hb, hp, hc 0 (by show 0 < 2; omega), hc 1 (by show 1 < 2; omega)⟩
theorem new_two (w : World) (p : Int × Int) (t : TypeId) : ∀ j u, (twoS.f p)[j]? = some u → (w.alloc (.cells #[.int .i64 p.1, .int .i64 p.2] t)).cell? ((⟨w.heap.size, 0, none⟩ : Addr).add j) = some u := new_rec (S := twoS) w p t
end
/-- A number of 64 bits. -/
def B64 (n : Int) : Prop := -9223372036854775808 ≤ n ∧ n ≤ 9223372036854775807
/-- A place as a value. -/
def pl (p : Int × Int) : Value := .agg #[.int .i64 p.1, .int .i64 p.2]
def B64p (p : Int × Int) : Prop := B64 p.1 ∧ B64 p.2

/-- What came back is a slice that reads as a list. -/
def TwTo (B : Nat) (w0 : World) (l : List (Int × Int)) (v : Value) (w' : World) : Prop :=
  ∃ A n c, v = .slice A n c ∧ RRow twoS w' w'.heap.size A n l ∧ (A = none → c = 0) ∧ n ≤ c ∧ c ≤ maxLen ∧ Below B w0 w'
theorem TwTo.of_own {B : Nat} {w0 w' : World} {l : List (Int × Int)} {v : Value} {n : Nat} {e : TypeId} (h : w'.ownsRow B e 2 v n (twoS.flat l)) (hb : Below B w0 w') : TwTo B w0 l v w' := by
  have h' : w'.ownsRow B e twoS.c v n (twoS.flat l) := h
  rcases h.2 with ⟨rfl, rfl⟩ | ⟨g, cap, cur, rfl, h1, h2, h3, h4, h5, h6⟩
  · exact ⟨none, 0, 0, rfl, RRow.of_own (S := twoS) h', fun _ => rfl, Nat.le_refl _, Nat.zero_le _, hb⟩
  · exact ⟨_, n, cap, rfl, RRow.of_own (S := twoS) h', fun h => by (cases h), h3, h4, hb⟩
end Go.Proofs.Ythhnemanaciikaa.Ge
