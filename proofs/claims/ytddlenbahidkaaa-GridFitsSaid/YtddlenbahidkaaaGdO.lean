/- Layer 14 (grid): what the program's functions must do, over any way to keep a grid in memory. -/
import Derived.Test.YtddlenbahidkaaaProg
import Derived.Test.YtddlenbahidkaaaGdM
import Derived.Test.YtddlenbahidkaaaGeO0
import Derived.Test.YtddlenbahidkaaaInts
namespace Go.Proofs.Ytddlenbahidkaaa.Gd
open Go.RowKit Rec Ints Ge

/-- What Near answers. -/
def nearT (l : List C) (x y reach most : Int) : List Int × Nat :=
  if ¬ may x y ∨ reach < 0 ∨ 1048576 < reach ∨ most < 0 then ([], 2) else (nums (near (x, y) l reach most.toNat), 0)
/-- The nearest one. -/
def nstT (l : List C) (x y : Int) : Int × Bool :=
  if may x y then (match near (x, y) l 134217728 1 with | [] => (0, false) | i :: _ => ((i : Int), true)) else (0, false)

/-- What a program's functions must do, where Gr tells how a grid lies in memory. -/
structure Oks (Gr : World → Addr → List C → Int → Prop) : Prop where
  keep : ∀ {w w' : World} {a : Addr} {l : List C} {s : Int}, Gr w a l s → Below w.heap.size w w' → Gr w' a l s
  new : ∀ (A : Option Addr) (n c : Nat) (l : List C) (s : Int) (w : World), RRow twoS w w.heap.size A n l → (A = none → c = 0) → n ≤ c → c ≤ maxLen → n ≤ 4096 → (∀ p ∈ l, B64p p) → B64 s →
    Calls Try.prog 6 #[.slice A n c, .int .i64 s] w fun e w' => ∃ v, e = .returned (.tuple #[v, .int .i64 ((right l s : Nat) : Int)]) ∧ (right l s ≠ 0 → v = .pointer none) ∧ (right l s = 0 → ∃ a, v = .pointer (some a) ∧ Gr w' a l s) ∧ Below w.heap.size w w'
  len : ∀ (a : Addr) (l : List C) (s : Int) (w : World), Gr w a l s → l.length ≤ 4096 →
    Calls Try.prog 8 #[.pointer (some a)] w fun e w' => e = .returned (.int .i64 (l.length : Int)) ∧ Below w.heap.size w w'
  cell : ∀ (a : Addr) (l : List C) (s : Int) (q : C) (w : World), Gr w a l s → l.length ≤ 4096 → (∀ p ∈ l, B64p p) → right l s = 0 → B64p q →
    Calls Try.prog 10 #[.pointer (some a), .agg #[.int .i64 q.1, .int .i64 q.2]] w fun e w' => ∃ v, e = .returned v ∧ InTo w.heap.size w (nums (Gd.cell l s q)) v w'
  near : ∀ (a : Addr) (l : List C) (s x y reach most : Int) (w : World), Gr w a l s → l.length ≤ 4096 → (∀ p ∈ l, B64p p) → right l s = 0 → B64 x → B64 y → B64 reach → B64 most →
    Calls Try.prog 12 #[.pointer (some a), .int .i64 x, .int .i64 y, .int .i64 reach, .int .i64 most] w fun e w' => ∃ v, e = .returned (.tuple #[v, .int .i64 ((nearT l x y reach most).2 : Int)]) ∧ InTo w.heap.size w (nearT l x y reach most).1 v w'
  nearest : ∀ (a : Addr) (l : List C) (s x y : Int) (w : World), Gr w a l s → l.length ≤ 4096 → (∀ p ∈ l, B64p p) → right l s = 0 → B64 x → B64 y →
    Calls Try.prog 13 #[.pointer (some a), .int .i64 x, .int .i64 y] w fun e w' => e = .returned (.tuple #[.int .i64 (nstT l x y).1, .bool (nstT l x y).2]) ∧ Below w.heap.size w w'
  len0 : ∀ (w : World), Calls Try.prog 8 #[.pointer none] w fun e w' => e = .returned (.int .i64 0) ∧ Below w.heap.size w w'
  cell0 : ∀ (q : C) (w : World), B64p q → Calls Try.prog 10 #[.pointer none, .agg #[.int .i64 q.1, .int .i64 q.2]] w fun e w' => ∃ v, e = .returned v ∧ InTo w.heap.size w [] v w'
  near0 : ∀ (x y reach most : Int) (w : World), B64 x → B64 y → B64 reach → B64 most →
    Calls Try.prog 12 #[.pointer none, .int .i64 x, .int .i64 y, .int .i64 reach, .int .i64 most] w fun e w' => ∃ v, e = .returned (.tuple #[v, .int .i64 1]) ∧ InTo w.heap.size w [] v w'
end Go.Proofs.Ytddlenbahidkaaa.Gd
