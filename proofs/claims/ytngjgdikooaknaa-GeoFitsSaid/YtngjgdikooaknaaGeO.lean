/- Layer 13 (geo): cells and places in memory; what the program's functions must do. -/
import Derived.Test.YtngjgdikooaknaaProg
import Derived.Test.YtngjgdikooaknaaGeM
import Derived.Test.YtngjgdikooaknaaRec
namespace Go.Proofs.Ytngjgdikooaknaa.Ge
open Go.RowKit Rec

/-- Two ints in two cells. -/
def twoS : Shape (Int × Int) where
  f p := [.int .i64 p.1, .int .i64 p.2]
  c := 2
  pos := by omega
  len _ := rfl
  one _ u hu := by
    simp only [List.mem_cons, List.not_mem_nil, or_false] at hu
    rcases hu with rfl | rfl <;> rfl
section
variable {w : World} {B n : Nat} {A : Option Addr} {l : List (Int × Int)}
theorem two_at (h : RRow twoS w B A n l) {j : Nat} (hj : j < n) : ∃ b o p, A = some ⟨b, o, none⟩ ∧ b < B ∧ l[j]? = some p ∧ w.cell? ⟨b, o + j * 2, none⟩ = some (.int .i64 p.1) ∧ w.cell? ⟨b, o + j * 2 + 1, none⟩ = some (.int .i64 p.2) := by
  obtain ⟨b, o, p, e, hb, hp, hc⟩ := h.at hj
  exact ⟨b, o, p, e, hb, hp, hc 0 (by show 0 < 2; omega), hc 1 (by show 1 < 2; omega)⟩
theorem new_two (w : World) (p : Int × Int) (t : TypeId) : ∀ j u, (twoS.f p)[j]? = some u → (w.alloc (.cells #[.int .i64 p.1, .int .i64 p.2] t)).cell? ((⟨w.heap.size, 0, none⟩ : Addr).add j) = some u := new_rec (S := twoS) w p t
end
theorem info_cell : (Try.prog.info? 35).map (fun i => (i.zero, i.size, i.bytes)) = some (some (.agg #[.int .i64 0, .int .i64 0]), 2, 16) := by kernel_rfl

/-- A number of 64 bits. -/
def B64 (n : Int) : Prop := -9223372036854775808 ≤ n ∧ n ≤ 9223372036854775807
/-- A place as a value. -/
def pl (p : Int × Int) : Value := .agg #[.int .i64 p.1, .int .i64 p.2]
def B64p (p : Int × Int) : Prop := B64 p.1 ∧ B64 p.2

/-- What a program's functions must do. -/
def MayOk : Prop := ∀ (x y : Int) (w : World), B64 x → B64 y → Calls Try.prog 7 #[.int .i64 x, .int .i64 y] w fun e w' => e = .returned (.bool (decide (may x y))) ∧ Below w.heap.size w w'
def SquareOk : Prop := ∀ (a b : Int × Int) (w : World), B64p a → B64p b → Calls Try.prog 9 #[.agg #[.int .i64 a.1, .int .i64 a.2], .agg #[.int .i64 b.1, .int .i64 b.2]] w fun e w' => e = .returned (.int .i64 (sq a.1 a.2 b.1 b.2)) ∧ Below w.heap.size w w'
def SideOk : Prop := ∀ (a b c : Int × Int) (w : World), B64p a → B64p b → B64p c → Calls Try.prog 11 #[.agg #[.int .i64 a.1, .int .i64 a.2], .agg #[.int .i64 b.1, .int .i64 b.2], .agg #[.int .i64 c.1, .int .i64 c.2]] w fun e w' => e = .returned (.int .i64 (side a.1 a.2 b.1 b.2 c.1 c.2)) ∧ Below w.heap.size w w'
def RootOk : Prop := ∀ (n : Int) (w : World), B64 n → Calls Try.prog 13 #[.int .i64 n] w fun e w' => ∃ x, e = .returned (.int .i64 x) ∧ IsRoot n x ∧ Below w.heap.size w w'
/-- What came back is a slice that reads as a list. -/
def TwTo (B : Nat) (w0 : World) (l : List (Int × Int)) (v : Value) (w' : World) : Prop :=
  ∃ A n c, v = .slice A n c ∧ RRow twoS w' w'.heap.size A n l ∧ (A = none → c = 0) ∧ n ≤ c ∧ c ≤ maxLen ∧ Below B w0 w'
theorem TwTo.of_own {B : Nat} {w0 w' : World} {l : List (Int × Int)} {v : Value} {n : Nat} {e : TypeId} (h : w'.ownsRow B e 2 v n (twoS.flat l)) (hb : Below B w0 w') : TwTo B w0 l v w' := by
  have h' : w'.ownsRow B e twoS.c v n (twoS.flat l) := h
  rcases h.2 with ⟨rfl, rfl⟩ | ⟨g, cap, cur, rfl, h1, h2, h3, h4, h5, h6⟩
  · exact ⟨none, 0, 0, rfl, RRow.of_own (S := twoS) h', fun _ => rfl, Nat.le_refl _, Nat.zero_le _, hb⟩
  · exact ⟨_, n, cap, rfl, RRow.of_own (S := twoS) h', fun h => by (cases h), h3, h4, hb⟩
/-- The cells and the error of a ring. -/
def ringT (r : Int) : List (Int × Int) × Nat := if r < 0 ∨ 4096 < r then ([], 3) else (ring r.toNat, 0)
def RingOk : Prop := ∀ (r : Int) (w : World), B64 r → Calls Try.prog 15 #[.int .i64 r] w fun e w' => ∃ v, e = .returned (.tuple #[v, .int .i64 ((ringT r).2 : Int)]) ∧ TwTo w.heap.size w (ringT r).1 v w'
structure Oks : Prop where
  may : MayOk
  square : SquareOk
  side : SideOk
  root : RootOk
  ring : RingOk
end Go.Proofs.Ytngjgdikooaknaa.Ge
