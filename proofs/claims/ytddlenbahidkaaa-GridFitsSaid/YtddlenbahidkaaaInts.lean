/- Slices of ints: what they read as; the reference's Same of two of them, as a contract. -/
import Derived.Test.YtddlenbahidkaaaProg
import Derived.Test.YtddlenbahidkaaaRec
import Derived.Deep.QuietTactic
import Derived.BigQuiet
import Derived.WalkMore
namespace Go.Proofs.Ytddlenbahidkaaa.Ints
open Go.RowKit Rec

/-- An int in a cell. -/
def intS : Shape Int where
  f n := [.int .i64 n]
  c := 1
  pos := by omega
  len _ := rfl
  one _ u hu := by
    simp only [List.mem_cons, List.not_mem_nil, or_false] at hu
    subst hu
    rfl
section
variable {w : World} {B n : Nat} {A : Option Addr} {l : List Int}
theorem int_at (h : RRow intS w B A n l) {j : Nat} (hj : j < n) : ∃ b o x, A = some ⟨b, o, none⟩ ∧ b < B ∧ l[j]? = some x ∧ w.cell? ⟨b, o + j, none⟩ = some (.int .i64 x) := by
  obtain ⟨b, o, x, e, hb, hp, hc⟩ := h.at hj
  have h0 := hc 0 (by show 0 < 1; omega)
  have e1 : o + j * intS.c + 0 = o + j := by show o + j * 1 + 0 = _; omega
  rw [e1] at h0
  exact ⟨b, o, x, e, hb, hp, h0⟩
theorem new_int (w : World) (x : Int) (t : TypeId) : ∀ j u, (intS.f x)[j]? = some u → (w.alloc (.cells #[.int .i64 x] t)).cell? ((⟨w.heap.size, 0, none⟩ : Addr).add j) = some u := new_rec (S := intS) w x t
end
theorem info_int : (Try.prog.info? 3).map (fun i => (i.zero, i.size, i.bytes)) = some (some (.int .i64 0), 1, 8) := by kernel_rfl
/-- Numbers as ints. -/
def nums (L : List Nat) : List Int := L.map fun i : Nat => (i : Int)
theorem nums_len (L : List Nat) : (nums L).length = L.length := by unfold nums; simp
theorem nums_at {L : List Nat} {j : Nat} {x : Int} (h : (nums L)[j]? = some x) : ∃ i, L[j]? = some i ∧ x = (i : Int) := by
  unfold nums at h
  rw [List.getElem?_map] at h
  obtain ⟨i, h1, h2⟩ := Option.map_eq_some_iff.1 h
  exact ⟨i, h1, h2.symm⟩
theorem nums_inj {L M : List Nat} (h : nums L = nums M) : L = M := by
  unfold nums at h
  exact (List.map_inj_right (fun a b hab => Int.ofNat.inj hab)).1 h
theorem nums_cat (L M : List Nat) : nums (L ++ M) = nums L ++ nums M := by unfold nums; simp
theorem nums_take (L : List Nat) (k : Nat) : nums (L.take k) = (nums L).take k := by unfold nums; simp

/-- What came back is a slice that reads as ints. -/
def InTo (B : Nat) (w0 : World) (l : List Int) (v : Value) (w' : World) : Prop :=
  ∃ A n c, v = .slice A n c ∧ RRow intS w' w'.heap.size A n l ∧ (A = none → c = 0) ∧ n ≤ c ∧ c ≤ maxLen ∧ Below B w0 w'
theorem InTo.of_own {B : Nat} {w0 w' : World} {l : List Int} {v : Value} {n : Nat} {e : TypeId} (h : w'.ownsRow B e 1 v n (intS.flat l)) (hb : Below B w0 w') : InTo B w0 l v w' := by
  have h' : w'.ownsRow B e intS.c v n (intS.flat l) := h
  rcases h.2 with ⟨rfl, rfl⟩ | ⟨g, cap, cur, rfl, h1, h2, h3, h4, h5, h6⟩
  · exact ⟨none, 0, 0, rfl, RRow.of_own (S := intS) h', fun _ => rfl, Nat.le_refl _, Nat.zero_le _, hb⟩
  · exact ⟨_, n, cap, rfl, RRow.of_own (S := intS) h', fun h => by (cases h), h3, h4, hb⟩
theorem InTo.nil {B : Nat} {w0 w' : World} (hb : Below B w0 w') : InTo B w0 [] (.slice none 0 0) w' := ⟨none, 0, 0, rfl, RRow.nil_, fun _ => rfl, Nat.le_refl _, Nat.zero_le _, hb⟩

set_option maxHeartbeats 800000 in
set_option maxRecDepth 100000 in
/-- Are two lists one? -/
theorem isame_any (A A' : Option Addr) (n n' c c' B B' : Nat) (l m : List Int) (w : World) (hn : n ≤ 4398046511104) (h1 : RRow intS w B A n l) (h2 : RRow intS w B' A' n' m) :
    Calls Try.prog 9 #[.slice A n c, .slice A' n' c'] w fun e w' => e = .returned (.bool (decide (l = m))) ∧ ∃ q, w' = w.drewN q := by
  have H1 := Lib.hid h1
  have H2 := Lib.hid h2
  clear h1 h2
  by_cases hl : n = n'
  · subst hl
    have HAG : Hid (∀ j, j < 0 → l[j]? = m[j]?) := fun j hj => by omega
    go_enter Try.func9, Try.ntmps9
    go_wp2
    go_loopw [5] (fun i wr => ∃ k q : Nat, k ≤ n ∧ i = .int .i64 (k : Int) ∧ Hid (∀ j, j < k → l[j]? = m[j]?) ∧ Hid (wr = w.drewN q)) (fun i _ => n - (intOf i).toNat)
    case atStart => exact ⟨0, 0, Nat.zero_le _, rfl, HAG, rfl⟩
    case round =>
      clear HAG
      obtain ⟨k, q, hk, rfl, HA, hw⟩ := hrel
      obtain rfl := hw.out
      clear hw
      by_cases hlt : k < n
      · obtain ⟨b, o, x, rfl, _, hx, hc1⟩ := int_at H1.out hlt
        obtain ⟨b', o', y, rfl, _, hy, hc2⟩ := int_at H2.out hlt
        by_cases hxy : x = y
        · subst hxy
          have HA2 : Hid (∀ j, j < k + 1 → l[j]? = m[j]?) := fun j hj => by
            rcases Nat.lt_or_ge j k with h | h
            · exact HA.out j h
            · obtain rfl : j = k := by omega
              rw [hx, hy]
          clear hx hy HA
          go_wp2
          go_quiet (fail)
          go_wp2
          go_roundw
          case rel => exact ⟨k + 1, _, by omega, by go_num, HA2, by unfold Hid; rfl⟩
          case measure => simp [intOf]; omega
        · have e1 : (x == y) = false := beq_eq_false_iff_ne.2 hxy
          have HD := Lib.hid (show decide (l = m) = false from decide_eq_false fun e => by rw [e, hy] at hx; injection hx with hx; exact hxy hx.symm)
          clear hx hy HA
          go_wp2
          go_quiet (fail)
          go_wp2
          go_ret
          exact ⟨by rw [HD.out]; rfl, q + nq, World.drewN_drewN w q nq⟩
      · have HD := Lib.hid (show decide (l = m) = true from decide_eq_true (List.ext_getElem? fun j => by
          rcases Nat.lt_or_ge j k with h | h
          · exact HA.out j h
          · rw [List.getElem?_eq_none (by have := H1.out.len; omega), List.getElem?_eq_none (by have := H2.out.len; omega)]))
        go_wp2
        go_ret
        exact ⟨by rw [HD.out]; rfl, _, rfl⟩
  · have e0 : ((n : Int) == (n' : Int)) = false := beq_eq_false_iff_ne.2 (by omega)
    have HD := Lib.hid (show decide (l = m) = false from decide_eq_false fun e => by have a := H1.out.len; have b := H2.out.len; rw [e] at a; omega)
    go_enter Try.func9, Try.ntmps9
    go_wp2
    go_ret
    exact ⟨by rw [HD.out]; rfl, 0, rfl⟩
end Go.Proofs.Ytddlenbahidkaaa.Ints
