/- Layer 12 (revoke): lists in memory; what the program's functions must do. -/
import Derived.Test.YtfmmpmpafgbidaaProg
import Derived.Test.YtfmmpmpafgbidaaRvM
import Derived.Test.YtfmmpmpafgbidaaRec
namespace Go.Proofs.Ytfmmpmpafgbidaa.Rv
open Go.RowKit Rec

def rvS : Shape P where
  f p := [.int .i64 p.1, .int .i64 p.2]
  c := 2
  pos := by omega
  len _ := rfl
  one _ u hu := by
    simp only [List.mem_cons, List.not_mem_nil, or_false] at hu
    rcases hu with rfl | rfl <;> rfl
section
variable {w : World} {B n : Nat} {A : Option Addr} {l : List P}
theorem rv_at (h : RRow rvS w B A n l) {j : Nat} (hj : j < n) : ∃ b o p, A = some ⟨b, o, none⟩ ∧ b < B ∧ l[j]? = some p ∧ w.cell? ⟨b, o + j * 2, none⟩ = some (.int .i64 p.1) ∧ w.cell? ⟨b, o + j * 2 + 1, none⟩ = some (.int .i64 p.2) := by
  obtain ⟨b, o, p, e, hb, hp, hc⟩ := h.at hj
  exact ⟨b, o, p, e, hb, hp, hc 0 (by show 0 < 2; omega), hc 1 (by show 1 < 2; omega)⟩
end
theorem info_rev : (Try.prog.info? 24).map (fun i => (i.zero, i.size, i.bytes)) = some (some (.agg #[.int .i64 0, .int .i64 0]), 2, 16) := by kernel_rfl

/-- What came back is a slice that reads as a list. -/
def RvTo (B : Nat) (w0 : World) (l : List P) (v : Value) (w' : World) : Prop :=
  ∃ A n c, v = .slice A n c ∧ RRow rvS w' w'.heap.size A n l ∧ (A = none → c = 0) ∧ n ≤ c ∧ c ≤ maxLen ∧ Below B w0 w'
theorem RvTo.of_own {B : Nat} {w0 w' : World} {l : List P} {v : Value} {n : Nat} {e : TypeId} (h : w'.ownsRow B e 2 v n (rvS.flat l)) (hb : Below B w0 w') : RvTo B w0 l v w' := by
  have h' : w'.ownsRow B e rvS.c v n (rvS.flat l) := h
  rcases h.2 with ⟨rfl, rfl⟩ | ⟨g, cap, cur, rfl, h1, h2, h3, h4, h5, h6⟩
  · exact ⟨none, 0, 0, rfl, RRow.of_own (S := rvS) h', fun _ => rfl, Nat.le_refl _, Nat.zero_le _, hb⟩
  · exact ⟨_, n, cap, rfl, RRow.of_own (S := rvS) h', fun h => by (cases h), h3, h4, hb⟩

/-- What a program's functions must do. -/
def RightOk : Prop := ∀ (A : Option Addr) (n c : Nat) (l : List P) (w : World), RRow rvS w w.heap.size A n l → (A = none → c = 0) → n ≤ c → c ≤ maxLen → n ≤ 100000 →
  Calls Try.prog 8 #[.slice A n c] w fun e w' => e = .returned (.bool (decide (Rt l))) ∧ Below w.heap.size w w'
def HasOk : Prop := ∀ (A : Option Addr) (n c : Nat) (l : List P) (t nw : Int) (w : World), RRow rvS w w.heap.size A n l → (A = none → c = 0) → n ≤ c → c ≤ maxLen → Rt l →
  Calls Try.prog 12 #[.slice A n c, .int .i64 t, .int .i64 nw] w fun e w' => e = .returned (.bool (has l t nw)) ∧ Below w.heap.size w w'
def PruneOk : Prop := ∀ (A : Option Addr) (n c : Nat) (l : List P) (nw : Int) (w : World), RRow rvS w w.heap.size A n l → (A = none → c = 0) → n ≤ c → c ≤ maxLen → n ≤ 100000 →
  Calls Try.prog 10 #[.slice A n c, .int .i64 nw] w fun e w' => ∃ v, e = .returned v ∧ RvTo w.heap.size w (prune l nw) v w'
/-- A list with one more, and the error. -/
noncomputable def addT (l : List P) (x : P) : List P × Nat := if Rt l ∧ okp x then (if (add l x).length ≤ 4096 then (add l x, 0) else ([], 3)) else ([], 2)
def AddOk : Prop := ∀ (A : Option Addr) (n c : Nat) (l : List P) (x : P) (w : World), RRow rvS w w.heap.size A n l → (A = none → c = 0) → n ≤ c → c ≤ maxLen → n ≤ 100000 →
  Calls Try.prog 14 #[.slice A n c, .agg #[.int .i64 x.1, .int .i64 x.2]] w fun e w' => ∃ v, e = .returned (.tuple #[v, .int .i64 ((addT l x).2 : Int)]) ∧ RvTo w.heap.size w (addT l x).1 v w'
/-- Two lists as one, and the error. -/
noncomputable def mergeT (a b : List P) : List P × Nat := if Rt a ∧ Rt b then (if (adds a b).length ≤ 4096 then (adds a b, 0) else ([], 3)) else ([], 2)
def MergeOk : Prop := ∀ (A A' : Option Addr) (n n' c c' : Nat) (a b : List P) (w : World), RRow rvS w w.heap.size A n a → (A = none → c = 0) → n ≤ c → c ≤ maxLen → n ≤ 100000 → RRow rvS w w.heap.size A' n' b → (A' = none → c' = 0) → n' ≤ c' → c' ≤ maxLen → n' ≤ 100000 →
  Calls Try.prog 16 #[.slice A n c, .slice A' n' c'] w fun e w' => ∃ v, e = .returned (.tuple #[v, .int .i64 ((mergeT a b).2 : Int)]) ∧ RvTo w.heap.size w (mergeT a b).1 v w'
/-- All of them. -/
structure Oks : Prop where
  right : RightOk
  has : HasOk
  prune : PruneOk
  add : AddOk
  merge : MergeOk
end Go.Proofs.Ytfmmpmpafgbidaa.Rv
