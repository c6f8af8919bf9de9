/- Slices of ints: what they read as; the reference's Same of two of them, as a contract. -/
import Derived.Test.YthhnemanaciikaaProg
import Derived.Test.YthhnemanaciikaaRec
import Derived.Deep.QuietTactic
import Derived.BigQuiet
import Derived.WalkMore
namespace Go.Proofs.Ythhnemanaciikaa.Ints
open Go.RowKit Rec

/-- An int in a cell. -/
def intS : Shape Int where
  f n := [.int .i64 n]
  c := 1
  pos := by omega
  len _ := rfl
  one _ u hu := by
    simp only [List.mem_cons, List.not_mem_nil, or_false] at hu
    subst hu
    rfl
section
variable {w : World} {B n : Nat} {A : Option Addr} {l : List Int}
theorem int_at (h : RRow intS w B A n l) {j : Nat} (hj : j < n) : ∃ b o x, A = some ⟨b, o, none⟩ ∧ b < B ∧ l[j]? = some x ∧ w.cell? ⟨b, o + j, none⟩ = some (.int .i64 x) := by
  obtain ⟨b, o, x, e, hb, hp, hc⟩ := h.at hj
  have h0 := hc 0 (by show 0 < 1; omega)
  have e1 : o + j * intS.c + 0 = o + j := by show o + j * 1 + 0 = _; omega
  rw [e1] at h0
  exact ⟨b, o, x, e, hb, hp, h0⟩
theorem new_int (w : World) (x : Int) (t : TypeId) : ∀ j u, (intS.f x)[j]? = some u → (w.alloc (.cells #[.int .i64 x] t)).cell? ((⟨w.heap.size, 0, none⟩ : Addr).add j) = some u := new_rec (S := intS) w x t
end
theorem info_int : (Try.prog.info? 3).map (fun i => (i.zero, i.size, i.bytes)) = some (some (.int .i64 0), 1, 8) := by kernel_rfl
/-- Numbers as ints. -/
def nums (L : List Nat) : List Int := L.map fun i : Nat => (i : Int)
theorem nums_len (L : List Nat) : (nums L).length = L.length := by unfold nums; simp
theorem nums_at {L : List Nat} {j : Nat} {x : Int} (h : (nums L)[j]? = some x) : ∃ i, L[j]? = some i ∧ x = (i : Int) := by
  unfold nums at h
  rw [List.getElem?_map] at h
  obtain ⟨i, h1, h2⟩ := Option.map_eq_some_iff.1 h
  exact ⟨i, h1, h2.symm⟩
theorem nums_inj {L M : List Nat} (h : nums L = nums M) : L = M := by
  unfold nums at h
  exact (List.map_inj_right (fun a b hab => Int.ofNat.inj hab)).1 h
theorem nums_cat (L M : List Nat) : nums (L ++ M) = nums L ++ nums M := by unfold nums; simp
theorem nums_take (L : List Nat) (k : Nat) : nums (L.take k) = (nums L).take k := by unfold nums; simp

/-- What came back is a slice that reads as ints. -/
def InTo (B : Nat) (w0 : World) (l : List Int) (v : Value) (w' : World) : Prop :=
  ∃ A n c, v = .slice A n c ∧ RRow intS w' w'.heap.size A n l ∧ (A = none → c = 0) ∧ n ≤ c ∧ c ≤ maxLen ∧ Below B w0 w'
theorem InTo.of_own {B : Nat} {w0 w' : World} {l : List Int} {v : Value} {n : Nat} {e : TypeId} (h : w'.ownsRow B e 1 v n (intS.flat l)) (hb : Below B w0 w') : InTo B w0 l v w' := by
  have h' : w'.ownsRow B e intS.c v n (intS.flat l) := h
  rcases h.2 with ⟨rfl, rfl⟩ | ⟨g, cap, cur, rfl, h1, h2, h3, h4, h5, h6⟩
  · exact ⟨none, 0, 0, rfl, RRow.of_own (S := intS) h', fun _ => rfl, Nat.le_refl _, Nat.zero_le _, hb⟩
  · exact ⟨_, n, cap, rfl, RRow.of_own (S := intS) h', fun h => by (cases h), h3, h4, hb⟩
theorem InTo.rebase {B B' : Nat} {w0 w1 w' : World} {l : List Int} {v : Value} (h : InTo B w0 l v w') (hb : Below B' w1 w') : InTo B' w1 l v w' := by
  obtain ⟨A, n, c, e1, e2, e3, e4, e5, _⟩ := h
  exact ⟨A, n, c, e1, e2, e3, e4, e5, hb⟩
theorem InTo.nil {B : Nat} {w0 w' : World} (hb : Below B w0 w') : InTo B w0 [] (.slice none 0 0) w' := ⟨none, 0, 0, rfl, RRow.nil_, fun _ => rfl, Nat.le_refl _, Nat.zero_le _, hb⟩
end Go.Proofs.Ythhnemanaciikaa.Ints
