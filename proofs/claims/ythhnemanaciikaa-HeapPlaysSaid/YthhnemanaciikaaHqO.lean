/- Layer 16 (heap): what the program's functions must do, for any order, over any way to keep a heap in memory. -/
import Derived.Test.YthhnemanaciikaaHqR
import Derived.Test.YthhnemanaciikaaGeO0
import Derived.Test.YthhnemanaciikaaOwn
namespace Go.Proofs.Ythhnemanaciikaa.Hq
open Go.RowKit Rec Ints Ge

/-- A strict weak order. -/
structure Swo {α : Type} (lt : α → α → Bool) : Prop where
  irrefl : ∀ x, lt x x = false
  trans : ∀ x y z, lt x y = true → lt y z = true → lt x z = true
  ntrans : ∀ x y z, lt x y = false → lt y z = false → lt x z = false
/-- What the functions of a heap (0: New, 1: Push, 2: Pop, 3: Len) do: M: the blocks that are the heap's own; L: what is in it, in whatever order. -/
structure HeapOk {α : Type} (F : Nat → FuncId) (enc : α → Value) (zero : α) (lt : α → α → Bool) (B : Nat) (Inv : World → Prop) (less : Value) (Hp : World → (Nat → Prop) → Addr → List α → Prop) : Prop where
  lies : ∀ {w : World} {M : Nat → Prop} {a : Addr} {L : List α}, Hp w M a L → ∀ k, M k → B ≤ k ∧ k < w.heap.size
  keep : ∀ {w w' : World} {M : Nat → Prop} {a : Addr} {L : List α}, Hp w M a L → w.heap.size ≤ w'.heap.size → (∀ k, M k → w'.heap[k]? = w.heap[k]?) → Hp w' M a L
  new : ∀ w : World, Inv w → B ≤ w.heap.size → Calls Try.prog (F 0) #[less] w fun e w' => ∃ a M, e = .returned (.pointer (some a)) ∧ Hp w' M a [] ∧ (∀ k, M k → w.heap.size ≤ k) ∧ Below w.heap.size w w'
  push : ∀ (w : World) (M : Nat → Prop) (a : Addr) (L : List α) (x : α), Inv w → Hp w M a L → L.length ≤ 1000 →
    Calls Try.prog (F 1) #[.pointer (some a), enc x] w fun e w' => e = .returned (.tuple #[]) ∧ ∃ M', Hp w' M' a (x :: L) ∧ Only M w w' ∧ ∀ k, M' k → M k ∨ w.heap.size ≤ k
  pop0 : ∀ (w : World) (M : Nat → Prop) (a : Addr), Inv w → Hp w M a [] →
    Calls Try.prog (F 2) #[.pointer (some a)] w fun e w' => e = .returned (.tuple #[enc zero, .bool false]) ∧ ∃ M', Hp w' M' a [] ∧ Only M w w' ∧ ∀ k, M' k → M k ∨ w.heap.size ≤ k
  pop : ∀ (w : World) (M : Nat → Prop) (a : Addr) (L : List α), Inv w → Hp w M a L → L ≠ [] → L.length ≤ 1000 →
    Calls Try.prog (F 2) #[.pointer (some a)] w fun e w' => ∃ x L', e = .returned (.tuple #[enc x, .bool true]) ∧ L.Perm (x :: L') ∧ (∀ y ∈ L', lt y x = false) ∧ ∃ M', Hp w' M' a L' ∧ Only M w w' ∧ ∀ k, M' k → M k ∨ w.heap.size ≤ k
  len : ∀ (w : World) (M : Nat → Prop) (a : Addr) (L : List α), Inv w → Hp w M a L → L.length ≤ 1000 → Calls Try.prog (F 3) #[.pointer (some a)] w fun e w' => e = .returned (.int .i64 (L.length : Int)) ∧ Below w.heap.size w w'
/-- .. and Top. -/
structure TopOk {α : Type} (f : FuncId) (enc : α → Value) (zero : α) (lt : α → α → Bool) (Inv : World → Prop) (Hp : World → (Nat → Prop) → Addr → List α → Prop) : Prop where
  top0 : ∀ (w : World) (M : Nat → Prop) (a : Addr), Inv w → Hp w M a [] → Calls Try.prog f #[.pointer (some a)] w fun e w' => e = .returned (.tuple #[enc zero, .bool false]) ∧ Below w.heap.size w w'
  top : ∀ (w : World) (M : Nat → Prop) (a : Addr) (L : List α), Inv w → Hp w M a L → L ≠ [] → L.length ≤ 1000 →
    Calls Try.prog f #[.pointer (some a)] w fun e w' => ∃ x, e = .returned (.tuple #[enc x, .bool true]) ∧ x ∈ L ∧ (∀ y ∈ L, lt y x = false) ∧ Below w.heap.size w w'
/-- .. for every order that a closure tells. -/
def TypeOk {α : Type} (F : Nat → FuncId) (T : Option FuncId) (enc : α → Value) (zero : α) : Prop :=
  ∀ (lt : α → α → Bool) (B : Nat) (Inv : World → Prop) (g : FuncId) (lb : Array Value), Swo lt → (∀ w w' : World, Inv w → B ≤ w.heap.size → Below B w w' → Inv w') → (∀ args w, (callFunc g args).run Try.prog w = .ok (.enter g args) w) →
    (∀ (x y : α) (w : World), Inv w → B ≤ w.heap.size → Calls Try.prog g (#[enc x, enc y] ++ lb) w fun e w' => e = .returned (.bool (lt x y)) ∧ Below w.heap.size w w') →
    ∃ Hp, HeapOk F enc zero lt B Inv (.func (.func g) #[] lb) Hp ∧ ∀ f, T = some f → TopOk f enc zero lt Inv Hp
def intF : Nat → FuncId
  | 0 => 10
  | 1 => 12
  | 2 => 14
  | _ => 16
def pairF : Nat → FuncId
  | 0 => 20
  | 1 => 17
  | 2 => 18
  | _ => 19
/-- What the laws ask. -/
structure Oks : Prop where
  sorted : SortedOk
  ints : TypeOk intF (some 15) (Value.int .i64) 0
  pairs : TypeOk pairF none pl (0, 0)
  push0 : ∀ (p : C) (w : World), Calls Try.prog 17 #[.pointer none, pl p] w fun e w' => e = .returned (.tuple #[]) ∧ Below w.heap.size w w'
  pop0 : ∀ w : World, Calls Try.prog 18 #[.pointer none] w fun e w' => e = .returned (.tuple #[pl (0, 0), .bool false]) ∧ Below w.heap.size w w'
  len0 : ∀ w : World, Calls Try.prog 19 #[.pointer none] w fun e w' => e = .returned (.int .i64 0) ∧ Below w.heap.size w w'

theorem int_swo : Swo (fun x y : Int => decide (x < y)) where
  irrefl x := decide_eq_false (by omega)
  trans x y z h1 h2 := by simp only [decide_eq_true_eq] at *; omega
  ntrans x y z h1 h2 := by simp only [decide_eq_false_iff_not] at *; omega
theorem plays_less (x y : Int) (w : World) : Calls Try.prog 11 #[.int .i64 x, .int .i64 y] w fun e w' => e = .returned (.bool (decide (x < y))) ∧ Below w.heap.size w w' := by
  go_enter Try.func11, Try.ntmps11
  go_wp2
  go_ret
  exact ⟨rfl, Below.refl _ _⟩
end Go.Proofs.Ythhnemanaciikaa.Hq
