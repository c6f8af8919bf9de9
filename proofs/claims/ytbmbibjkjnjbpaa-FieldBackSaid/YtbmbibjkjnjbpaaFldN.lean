/- What was written is read: the Reader's contracts on bytes that begin with a field's. -/
import Derived.Test.YtbmbibjkjnjbpaaFldE
namespace Go.Proofs.Ytbmbibjkjnjbpaa.Fld
open Go.RowKit Var

theorem take_put0 {n : Nat} (h : n < 18446744073709551616) (rest : List Int) : take 0 0 (put n ++ rest) = (n, (put n).length, 0) := by
  have := take_put n 0 0 rest (by simpa using h) (by omega) (.inr rfl)
  simpa using this
theorem abv_self {n : Nat} {most : Int} (h : (n : Int) ≤ most) (h2 : n ≤ 4611686018427387904) : abv n most = false := by
  unfold abv
  simp only [Bool.or_eq_false_iff, decide_eq_false_iff_not]
  omega
theorem nxt_num {v : Int} (h1 : 0 ≤ v) (h2 : v ≤ 4611686018427387904) (rest : List Int) : nxt (num v ++ rest) v = (v, (num v).length, 0) := by
  unfold nxt num
  rw [take_put0 (by omega)]
  simp only [ne_eq, not_true_eq_false, if_false]
  rw [abv_self (by omega) (by omega)]
  simp
  omega
theorem nxs_sgn {v : Int} (h1 : -4611686018427387904 ≤ v) (h2 : v ≤ 4611686018427387904) (rest : List Int) : nxs (sgn v ++ rest) (max v (-v)) = (v, (sgn v).length, 0) := by
  have hb := turn_bd (n := v) (by omega) (by omega)
  have ht : ((turn v).toNat : Int) = turn v := by omega
  unfold nxs sgn
  rw [take_put0 (by omega)]
  simp only [ne_eq, not_true_eq_false, if_false]
  rw [ht, back_turn, abv_self (by omega) (by omega)]
  simp
theorem nxl_bytes {bs : List Int} (h : bs.length ≤ 300) (rest : List Int) : nxl (num (bs.length : Int) ++ bs ++ rest) (bs.length : Int) = (bs, (num (bs.length : Int)).length + bs.length, 0) := by
  unfold nxl
  rw [List.append_assoc, nxt_num (by omega) (by omega)]
  simp only [ne_eq, not_true_eq_false, if_false]
  rw [if_neg (by simp; omega)]
  simp

theorem after_put (xs ys : List Int) : after (xs ++ ys) 0 xs.length 0 = (ys, 0) := by unfold after; simp

section
variable (g : Nat) (rest : List Int) (w : World)
theorem number_put {v : Int} (h : Rdr w g (num v ++ rest) 0) (h1 : 0 ≤ v) (h2 : v ≤ 4611686018427387904) :
    Calls Try.prog 15 #[.pointer (some ⟨g, 0, none⟩), .int .i64 v] w fun r w' => r = .returned (.int .i64 v) ∧ Rdr w' g rest 0 ∧ Only (fun k => k = g) w w' := by
  refine (numberR g 0 _ v w h (by omega) (by omega)).mono ?_
  rintro r w' ⟨a, b, c⟩
  rw [nxt_num h1 h2] at a b
  rw [after_put] at b
  exact ⟨a, b, c⟩
theorem signed_put {v : Int} (h : Rdr w g (sgn v ++ rest) 0) (h1 : -4611686018427387904 ≤ v) (h2 : v ≤ 4611686018427387904) :
    Calls Try.prog 17 #[.pointer (some ⟨g, 0, none⟩), .int .i64 (max v (-v))] w fun r w' => r = .returned (.int .i64 v) ∧ Rdr w' g rest 0 ∧ Only (fun k => k = g) w w' := by
  refine (signedR g 0 _ (max v (-v)) w h (by omega) (by omega)).mono ?_
  rintro r w' ⟨a, b, c⟩
  rw [nxs_sgn h1 h2] at a b
  rw [after_put] at b
  exact ⟨a, b, c⟩
theorem signed_pos {v : Int} (h : Rdr w g (sgn v ++ rest) 0) (h1 : -4611686018427387904 ≤ v) (h2 : v ≤ 4611686018427387904) (hq : ¬ v < -v) :
    Calls Try.prog 17 #[.pointer (some ⟨g, 0, none⟩), .int .i64 v] w fun r w' => r = .returned (.int .i64 v) ∧ Rdr w' g rest 0 ∧ Only (fun k => k = g) w w' := by
  have e : v = max v (-v) := by omega
  have := signed_put g rest w h h1 h2
  rwa [← e] at this
theorem signed_neg {v : Int} (h : Rdr w g (sgn v ++ rest) 0) (h1 : -4611686018427387904 ≤ v) (h2 : v ≤ 4611686018427387904) (hq : v < -v) :
    Calls Try.prog 17 #[.pointer (some ⟨g, 0, none⟩), .int .i64 (-v)] w fun r w' => r = .returned (.int .i64 v) ∧ Rdr w' g rest 0 ∧ Only (fun k => k = g) w w' := by
  have e : -v = max v (-v) := by omega
  rw [e]
  exact signed_put g rest w h h1 h2
theorem byte_put {y : Int} (h : Rdr w g (y :: rest) 0) :
    Calls Try.prog 19 #[.pointer (some ⟨g, 0, none⟩)] w fun r w' => r = .returned (.int .u8 y) ∧ Rdr w' g rest 0 ∧ Only (fun k => k = g) w w' := by
  refine (byteR g 0 _ w h).mono ?_
  rintro r w' ⟨a, b, c⟩
  exact ⟨a, b, c⟩
theorem bytes_put {bs : List Int} {n : Nat} (h : Rdr w g (num (n : Int) ++ bs ++ rest) 0) (hn : bs.length = n) (h1 : bs.length ≤ 300) (hx : rest.length ≤ 15500) :
    Calls Try.prog 21 #[.pointer (some ⟨g, 0, none⟩), .int .i64 (n : Int)] w fun r w' => ∃ v, r = .returned v ∧ w'.ownsRow w.heap.size 5 1 v n (bs.map (Value.int .u8)) ∧ Rdr w' g rest 0 ∧ Only (fun k => k = g) w w' := by
  subst hn
  refine (bytesR g 0 _ (bs.length : Int) w h (by omega) (by omega) (by have := num_len (k := (bs.length : Int)) (by omega); simp only [List.length_append]; omega)).mono ?_
  rintro r w' ⟨v, a, d, b, c⟩
  rw [nxl_bytes h1] at d b
  have e : (num (bs.length : Int)).length + bs.length = (num (bs.length : Int) ++ bs).length := by simp
  dsimp only at b
  rw [e, after_put] at b
  exact ⟨v, a, d, b, c⟩
end

theorem enc_byte {fs : List F} {w : World} {B n : Nat} {A : Option Addr} (h : FRow w B A n fs) : ∀ x ∈ enc fs, 0 ≤ x ∧ x ≤ 255 := by
  intro x hx
  obtain ⟨f, hf, hx⟩ := List.mem_flatMap.1 hx
  have hk := h.2.1 f hf
  unfold F.enc at hx
  split at hx
  · exact put_byte _ x hx
  · split at hx
    · exact put_byte _ x hx
    · split at hx
      · simp only [List.mem_singleton] at hx
        rw [hx, IntKind.wrap_u8']
        omega
      · split at hx
        · rcases List.mem_append.1 hx with hx | hx
          · exact put_byte _ x hx
          · exact hk.byt x hx
        · simp at hx
theorem enc_drop {fs : List F} {k : Nat} {f : F} (h : fs[k]? = some f) : enc (fs.drop k) = f.enc ++ enc (fs.drop (k + 1)) := by
  obtain ⟨hk, rfl⟩ := List.getElem?_eq_some_iff.1 h
  unfold enc
  rw [List.drop_eq_getElem_cons hk, List.flatMap_cons]
theorem enc_small_drop {fs : List F} {w : World} {B n : Nat} {A : Option Addr} (h : FRow w B A n fs) (hs : smallF fs = true) (k : Nat) : (enc (fs.drop k)).length ≤ 15500 := by
  obtain ⟨h1, h2⟩ := small_len hs
  have := enc_len (fs := fs.drop k) (fun f hf => F.enc_len (h.2.1 f (List.mem_of_mem_drop hf)) (h1 f (List.mem_of_mem_drop hf)))
  have h3 : (fs.drop k).length ≤ 50 := by simp; omega
  omega

/-- The Reader on its way. -/
structure Way (w0 w : World) (g : Nat) (xs : List Int) : Prop where
  rd : Rdr w g xs 0
  low : w0.heap.size ≤ g
  bel : Below w0.heap.size w0 w
theorem Way.below {w0 w w1 : World} {g : Nat} {xs : List Int} (h : Way w0 w g xs) (hb : Below w.heap.size w w1) : Way w0 w1 g xs :=
  ⟨h.rd.below hb, h.low, h.bel.trans (hb.mono h.bel.size)⟩
theorem Way.drewN {w0 w : World} {g : Nat} {xs : List Int} (h : Way w0 w g xs) (q : Nat) : Way w0 (w.drewN q) g xs := h.below ⟨rfl, rfl, rfl, Nat.le_refl _, fun _ _ => rfl⟩
theorem Way.drew {w0 w : World} {g : Nat} {xs : List Int} (h : Way w0 w g xs) : Way w0 w.drew g xs := h.below ⟨rfl, rfl, rfl, Nat.le_refl _, fun _ _ => rfl⟩
theorem Way.step {w0 w w1 : World} {g : Nat} {xs ys : List Int} (h : Way w0 w g xs) (h1 : Rdr w1 g ys 0) (ho : Only (fun k => k = g) w w1) : Way w0 w1 g ys :=
  ⟨h1, h.low, h.bel.trans (ho.below h.bel.size (fun k hk => by have := h.low; omega))⟩
end Go.Proofs.Ytbmbibjkjnjbpaa.Fld
