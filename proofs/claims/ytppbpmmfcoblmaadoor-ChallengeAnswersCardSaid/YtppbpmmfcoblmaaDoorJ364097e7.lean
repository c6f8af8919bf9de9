/- Lemmas that the proof stands on, in build order: TokL. -/
import Derived.Test.YtppbpmmfcoblmaaDoorJ179ddfcd
import Derived.Test.YtppbpmmfcoblmaaDoorJ217febdc
import Derived.Test.YtppbpmmfcoblmaaDoorJ32e05d9c
/- Layer 10 (token): what the program's functions must do; few. -/
namespace Go.Proofs.YtppbpmmfcoblmaaDoor.Tok
open Go.RowKit Slc Var Fld Frm Sha Hmc Rg

/-- What the program's Issue answers. -/
def IssTo (w : World) (r : List Int × Int) (x : Ending) (w' : World) : Prop :=
  ∃ A n c, x = .returned (.tuple #[.slice A n c, .int .i64 r.2]) ∧ Row .u8 w' w'.heap.size A n r.1 ∧ (A = none → c = 0) ∧ n ≤ c ∧ c ≤ maxLen ∧ Below w.heap.size w w'
theorem own_max {w : World} {base n : Nat} {e : TypeId} {v : Value} {xs : List Value} (h : w.ownsRow base e 1 v n xs) : ∃ A c, v = .slice A n c ∧ n ≤ c ∧ c ≤ maxLen ∧ (A = none → c = 0) := by
  rcases h.2 with ⟨rfl, rfl⟩ | ⟨g, cap, cur, rfl, _, _, hc, hm, _⟩
  · exact ⟨none, 0, rfl, Nat.le_refl _, Nat.zero_le _, fun _ => rfl⟩
  · exact ⟨_, cap, rfl, hc, hm, fun h => by cases h⟩
theorem issTo_own {w w' : World} {r : List Int × Int} {v : Value} (h : w'.ownsRow w.heap.size 5 1 v r.1.length (r.1.map (Value.int .u8))) (hb : Below w.heap.size w w') : IssTo w r (.returned (.tuple #[v, .int .i64 r.2])) w' := by
  obtain ⟨A, c, rfl, h1, h2, h3⟩ := own_max h
  exact ⟨A, _, c, rfl, Row.of_own h, h3, h1, h2, hb⟩
/-- What a program's functions must do. -/
def MayOk : Prop := ∀ (t : T) (w : World), t.ok → Calls Tryd.prog 49 #[t.val] w fun x w' => x = .returned (.bool (decide t.may)) ∧ Below w.heap.size w w'
def FieldsOk : Prop := ∀ (t : T) (w : World), t.ok → Calls Tryd.prog 76 #[t.val] w (Makes (flds t) w)
def IssueOk : Prop := ∀ (keep : Int) (A : Option Addr) (n c : Nat) (K : List Kp) (t : T) (w : World), t.ok → KRow w w.heap.size A n K → (A = none → c = 0) → n ≤ c → Small n K → -9223372036854775808 ≤ keep ∧ keep ≤ 9223372036854775807 → Lay w →
  Calls Tryd.prog 17 #[.agg #[.int .i64 keep, .slice A n c], t.val] w (IssTo w (issue keep (ls K) t))
def OpenOk : Prop := ∀ (A : Option Addr) (n c : Nat) (b : List Int) (w : World), Row .u8 w w.heap.size A n b → (A = none → c = 0) → Byt b → n ≤ c → c ≤ maxLen → n ≤ 4398046511104 → Lay w →
  Calls Tryd.prog 19 #[.slice A n c] w (OpenTo w (opn b))
def VerifyOk : Prop := ∀ (keep nw : Int) (A A' : Option Addr) (n c n' c' : Nat) (K : List Kp) (b : List Int) (w : World), KRow w w.heap.size A n K → (A = none → c = 0) → n ≤ c → Small n K → -9223372036854775808 ≤ keep ∧ keep ≤ 9223372036854775807 → -9223372036854775808 ≤ nw ∧ nw ≤ 9223372036854775807 →
  Row .u8 w w.heap.size A' n' b → (A' = none → c' = 0) → Byt b → n' ≤ c' → c' ≤ maxLen → n' ≤ 4398046511104 → Lay w →
  Calls Tryd.prog 20 #[.agg #[.int .i64 keep, .slice A n c], .slice A' n' c', .int .i64 nw] w (VerTo w (verify (ls K) b nw))

/-- What was issued, looked at. -/
theorem verify_body {E : List Kl} {k : List Int} {t : T} {nw : Int} (h : t.may) (hf : fnd E t.ep = some k) : verify E (frame 2 (body k t)) nw = if nw < t.is ∨ t.un < nw then (T.zero, 22) else (t, 0) := by
  unfold verify
  rw [opn_body h]
  simp only [ne_eq, not_true_eq_false, if_false, hf]
theorem verify_none {E : List Kl} {k : List Int} {t : T} {nw : Int} (h : t.may) (hf : fnd E t.ep = none) : verify E (frame 2 (body k t)) nw = (T.zero, 20) := by
  unfold verify
  rw [opn_body h]
  simp only [ne_eq, not_true_eq_false, if_false, hf]
/-- What counts. -/
theorem verify_yes {E : List Kl} {b : List Int} {nw : Int} (h : (verify E b nw).2 = 0) : (opn b).2.2 = 0 ∧ (verify E b nw).1 = (opn b).1 ∧ (opn b).1.may ∧ (∃ k, fnd E (opn b).1.ep = some k ∧ (opn b).2.1 = tagT k (opn b).1) ∧ (opn b).1.is ≤ nw ∧ nw ≤ (opn b).1.un := by
  unfold verify at h ⊢
  by_cases h0 : (opn b).2.2 = 0
  · simp only [h0, ne_eq, not_true_eq_false, if_false] at h ⊢
    cases hf : fnd E (opn b).1.ep with
    | none => rw [hf] at h; cases h
    | some k =>
      rw [hf] at h
      simp only at h ⊢
      by_cases h1 : tagT k (opn b).1 = (opn b).2.1
      · simp only [h1, not_true_eq_false, if_false] at h ⊢
        by_cases h2 : nw < (opn b).1.is ∨ (opn b).1.un < nw
        · simp only [h2, if_true] at h; cases h
        · simp only [h2, if_false, true_and]
          exact ⟨(opn_may h0).1, ⟨k, rfl, h1.symm⟩, by omega, by omega⟩
      · simp only [h1, not_false_eq_true, if_true] at h; cases h
  · simp only [h0, ne_eq, not_false_eq_true, if_true] at h
theorem verify_zero {E : List Kl} {b : List Int} {nw : Int} (h : (verify E b nw).2 ≠ 0) : (verify E b nw).1 = T.zero := by
  unfold verify at h ⊢
  by_cases h0 : (opn b).2.2 = 0
  · simp only [h0, ne_eq, not_true_eq_false, if_false] at h ⊢
    cases hf : fnd E (opn b).1.ep with
    | none => rfl
    | some k =>
      rw [hf] at h
      simp only at h ⊢
      by_cases h1 : tagT k (opn b).1 = (opn b).2.1
      · simp only [h1, not_true_eq_false, if_false] at h ⊢
        by_cases h2 : nw < (opn b).1.is ∨ (opn b).1.un < nw
        · simp only [h2, if_true]
        · simp only [h2, if_false] at h; exact absurd trivial h
      · simp only [h1, not_false_eq_true, if_true]
  · simp only [h0, ne_eq, not_false_eq_true, if_true]
theorem tagT_eq (k : List Int) (t : T) : tagT k t = mac k (tokn ++ 0 :: flds t) := rfl
/-- The example. -/
def exT : T := ⟨1, 2, 3, 4, 5, 0⟩
theorem exT_ok : exT.ok := ⟨by decide, by decide, by decide, by decide, by decide, by decide⟩
theorem exT_may : (exT.at 1).may := by decide
theorem ex_rt (k : List Int) (h : k.length = 32) : RtP 1 [(1, k)] := by
  refine ⟨by omega, by omega, by simp, by simp, fun j q hq => ?_⟩
  match j, hq with
  | 0, hq =>
    obtain rfl : (1, k) = q := by simpa using hq
    exact ⟨h, by omega, by omega, fun h => by omega⟩
  | j + 1, hq => simp at hq
theorem ex_issue (k : List Int) (h : k.length = 32) : issue 1 [(1, k)] exT = (frame 2 (body k (exT.at 1)), 0) := issue_yes ⟨ex_rt k h, exT_may⟩
theorem ex_len (k : List Int) : (frame 2 (body k (exT.at 1))).length = 46 := by
  have e : (body k (exT.at 1)).length = 39 := by
    have h : (flds (exT.at 1)).length = 6 := by decide +kernel
    have h2 : (num 32).length = 1 := by decide +kernel
    unfold body
    rw [List.length_append, List.length_append, tagT_len, h, h2]
  rw [frame_len, e]
  have h3 : (put 39).length = 1 := by decide +kernel
  omega
theorem ex_verify (k : List Int) : verify [(1, k)] (frame 2 (body k (exT.at 1))) 4 = (exT.at 1, 0) := by
  rw [verify_body exT_may (k := k) (by simp [fnd, exT, T.at])]
  rw [if_neg (by simp [exT, T.at])]
end Go.Proofs.YtppbpmmfcoblmaaDoor.Tok
