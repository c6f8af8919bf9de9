/- Layer 12 (revoke), the landed program: place, Has, as contracts. -/
import Derived.Test.YtfmmpmpafgbidaaRvC
namespace Go.Proofs.Ytfmmpmpafgbidaa.Rv
open Go.RowKit Rec

/-- Where a trip is in a valid list, or would be. -/
structure At (l : List P) (t : Int) (k : Nat) : Prop where
  le : k ≤ l.length
  iff : ∀ (j : Nat) (a : P), l[j]? = some a → (t ≤ a.1 ↔ k ≤ j)
/-- Whether it is there. -/
def there (l : List P) (t : Int) (k : Nat) : Bool := match l[k]? with | none => false | some p => p.1 == t
theorem At.split {l : List P} {t : Int} {k : Nat} (h : At l t k) : (∀ p ∈ l.take k, p.1 < t) ∧ (∀ p ∈ l.drop k, t ≤ p.1) := by
  refine ⟨fun p hp => ?_, fun p hp => ?_⟩
  · obtain ⟨j, hj, e⟩ := List.mem_take_iff_getElem.1 hp
    have h1 := h.iff j p (by rw [← e]; exact List.getElem?_eq_getElem (by omega))
    have h2 : ¬ k ≤ j := by omega
    have := fun x => h2 (h1.1 x)
    omega
  · obtain ⟨j, hj, e⟩ := List.mem_iff_getElem.1 hp
    rw [List.length_drop] at hj
    rw [List.getElem_drop] at e
    exact (h.iff (k + j) p (by rw [← e]; exact List.getElem?_eq_getElem (by omega))).2 (by omega)
theorem lk_app (a b : List P) (t : Int) (h : ∀ p ∈ a, p.1 < t) : lk (a ++ b) t = lk b t := by
  induction a with
  | nil => rfl
  | cons p a ih =>
    rw [List.cons_append, lk_cons, if_neg (by have := h p (by simp); omega)]
    exact ih fun q hq => h q (by simp [hq])
/-- What a valid list says of it. -/
theorem At.lk {l : List P} {t : Int} {k : Nat} (h : At l t k) (ha : Asc l) : lk l t = match l[k]? with | none => none | some p => if p.1 = t then some p.2 else none := by
  obtain ⟨h1, h2⟩ := h.split
  rw [← List.take_append_drop k l, lk_app _ _ _ h1]
  rw [List.take_append_drop]
  cases hp : l[k]? with
  | none =>
    rw [List.drop_of_length_le (List.getElem?_eq_none_iff.1 hp)]
    rfl
  | some p =>
    have hk : k < l.length := (List.getElem?_eq_some_iff.1 hp).1
    have hd : l.drop k = p :: l.drop (k + 1) := by
      rw [List.drop_eq_getElem_cons hk]
      congr 1
      exact (List.getElem?_eq_some_iff.1 hp).2
    rw [hd, lk_cons]
    by_cases c : p.1 = t
    · rw [if_pos c]; simp only; rw [if_pos c]
    · rw [if_neg c, lk_low]
      · simp only; rw [if_neg c]
      · intro q hq
        have h3 : Asc (l.drop k) := List.Pairwise.sublist (List.drop_sublist k l) ha
        rw [hd] at h3
        have h4 := h3.head q hq
        have h5 := h2 p (by rw [hd]; simp)
        omega
theorem At.has {l : List P} {t nw : Int} {k : Nat} (h : At l t k) (ha : Asc l) : has l t nw = match l[k]? with | none => false | some p => (p.1 == t) && decide (nw ≤ p.2) := by
  unfold Rv.has
  rw [h.lk ha]
  cases l[k]? with
  | none => rfl
  | some p =>
    simp only
    by_cases c : p.1 = t
    · rw [if_pos c, c]; simp
    · rw [if_neg c]
      simp [c]

set_option maxHeartbeats 1600000 in
set_option maxRecDepth 100000 in
theorem place_any (A : Option Addr) (n c : Nat) (l : List P) (t : Int) (w : World) (h : RRow rvS w w.heap.size A n l) (hn : n ≤ 100000) (ha : Asc l) :
    Calls Try.prog 21 #[.slice A n c, .int .i64 t] w fun e w' =>
      ∃ k : Nat, At l t k ∧ e = .returned (.tuple #[.int .i64 (k : Int), .bool (there l t k)]) ∧ Below w.heap.size w w' := by
  have H := Lib.hid h
  have HL := Lib.hid h.len
  have hmf : ∀ (fn : Fn) (first cap : Array Value) (w : World), (Instr.makeFunc fn first cap).run Try.prog w = .ok (.func fn first cap) w := fun _ _ _ _ => rfl
  have k0 : (w.alloc (.cells #[.int .i64 t] 3)).cell? ⟨w.heap.size, 0, none⟩ = some (.int .i64 t) := cell_of_blk (heap_alloc_new w _) rfl
  have HB0 : Hid (Below w.heap.size w (w.alloc (.cells #[.int .i64 t] 3))) := (Below.refl _ _).alloc (Nat.le_refl _) _
  have hsz : (w.alloc (.cells #[.int .i64 t] 3)).heap.size = w.heap.size + 1 := by simp
  have HF : Hid (Calls Try.prog 25 #[.slice A n c, .func (.func 26) #[] #[.pointer (some ⟨w.heap.size, 0, none⟩)]] (w.alloc (.cells #[.int .i64 t] 3)) fun e w' =>
      ∃ k : Nat, At l t k ∧ e = .returned (.int .i64 (k : Int)) ∧ w'.cell? ⟨w.heap.size, 0, none⟩ = some (.int .i64 t) ∧ Below w.heap.size w w') := by
    refine (bisected_any A n c 26 (.pointer (some ⟨w.heap.size, 0, none⟩)) (fun p => decide (t ≤ p.1)) l _ ((H.out.below HB0.out).more HB0.out.size) hn (fun _ _ => rfl) (fun p w' hb => cond_ge p t _ w' ((hb.cell (p := ⟨w.heap.size, 0, none⟩) (by show w.heap.size < _; omega)).trans k0) (by have := hb.size; omega)) (fun i j a b hij hi hj hx => ?_)).mono ?_
    · rcases Nat.eq_or_lt_of_le hij with rfl | hlt
      · rw [hi] at hj
        injection hj with hj
        rwa [← hj]
      · have h1 := List.pairwise_iff_getElem.1 ha i j (List.getElem?_eq_some_iff.1 hi).1 (List.getElem?_eq_some_iff.1 hj).1 hlt
        rw [(List.getElem?_eq_some_iff.1 hi).2, (List.getElem?_eq_some_iff.1 hj).2] at h1
        have h2 := of_decide_eq_true hx
        exact decide_eq_true (by omega)
    · rintro e w' ⟨k, hk, rfl, hi, hb⟩
      exact ⟨k, ⟨by rw [HL.out]; exact hk, fun j a hj => by rw [← hi j a hj]; exact ⟨fun h => decide_eq_true h, fun h => of_decide_eq_true h⟩⟩, rfl, (hb.cell (p := ⟨w.heap.size, 0, none⟩) (by show w.heap.size < _; omega)).trans k0, HB0.out.trans (hb.mono HB0.out.size)⟩
  clear h hsz k0 ha
  go_enter Try.func21, Try.ntmps21
  go_wp2_with fail
  refine HF.out.mono ?_
  rintro e1 w1 ⟨k, hat, rfl, kb, hb1⟩
  have HB1 := Lib.hid hb1
  have HAT := Lib.hid hat
  have hle := hat.le
  rw [HL.out] at hle
  clear hb1 hat HF
  by_cases hlt : k < n
  · obtain ⟨b, o, p, rfl, hbl, hp, c0, c1⟩ := rv_at (H.out.below HB1.out) hlt
    have HT : Hid (there l t k = (p.1 == t)) := by unfold Hid there; rw [hp]
    have hd : decide ((k : Int) < (n : Int)) = true := decide_eq_true (by omega)
    have h1 : (0 : Int) ≤ (k : Int) := by omega
    have h2 : (k : Int) < (n : Int) := by omega
    clear hp
    go_wp2_with fail
    go_quiet (fail)
    go_wp2
    go_ret2
    exact ⟨k, HAT.out, by rw [HT.out]; rfl, below_drewN HB1.out _⟩
  · have hkn : k = n := by omega
    subst hkn
    have HT : Hid (there l t k = false) := by unfold Hid there; rw [List.getElem?_eq_none (by rw [HL.out]; omega)]
    have hd : decide ((k : Int) < (k : Int)) = false := decide_eq_false (by omega)
    go_wp2_with fail
    go_quiet (fail)
    go_wp2
    go_ret2
    exact ⟨k, HAT.out, by rw [HT.out]; rfl, below_drewN HB1.out _⟩

set_option maxHeartbeats 1600000 in
set_option maxRecDepth 100000 in
theorem has_any (A : Option Addr) (n c : Nat) (l : List P) (t nw : Int) (w : World) (h : RRow rvS w w.heap.size A n l) (hn : n ≤ 100000) (ha : Asc l) :
    Calls Try.prog 12 #[.slice A n c, .int .i64 t, .int .i64 nw] w fun e w' => e = .returned (.bool (has l t nw)) ∧ Below w.heap.size w w' := by
  have H := Lib.hid h
  have HL := Lib.hid h.len
  have HA := Lib.hid ha
  clear h ha
  go_enter Try.func12, Try.ntmps12
  go_wp2_with fail
  refine (place_any A n c l t w H.out hn HA.out).mono ?_
  rintro e1 w1 ⟨k, hat, rfl, hb1⟩
  have HB1 := Lib.hid hb1
  have HE := Lib.hid (hat.has (nw := nw) HA.out)
  have hle := hat.le
  rw [HL.out] at hle
  clear hb1 hat
  cases hth : there l t k with
  | false =>
    have HF : Hid (has l t nw = false) := by
      unfold Hid
      rw [HE.out]
      unfold there at hth
      cases hp : l[k]? with
      | none => rfl
      | some p => rw [hp] at hth; simp only at hth ⊢; rw [hth]; rfl
    go_wp2
    go_ret
    exact ⟨by rw [HF.out]; rfl, HB1.out⟩
  | true =>
    have hlt : k < n := by
      unfold there at hth
      cases hp : l[k]? with
      | none => rw [hp] at hth; simp at hth
      | some p => have := (List.getElem?_eq_some_iff.1 hp).1; have := HL.out; omega
    obtain ⟨b, o, p, rfl, hbl, hp, c0, c1⟩ := rv_at (H.out.below HB1.out) hlt
    have HF : Hid (has l t nw = decide (nw ≤ p.2)) := by
      unfold Hid
      rw [HE.out]
      unfold there at hth
      rw [hp] at hth ⊢
      simp only at hth ⊢
      rw [hth]; rfl
    have h1 : (0 : Int) ≤ (k : Int) := by omega
    have h2 : (k : Int) < (n : Int) := by omega
    clear hp
    go_wp2
    go_ret
    exact ⟨by rw [HF.out]; rfl, HB1.out⟩
end Go.Proofs.Ytfmmpmpafgbidaa.Rv
