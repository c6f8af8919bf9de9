/- Lemmas that the proof stands on, in build order: FldW FldM. -/
import Derived.Test.YtdgaaghkhkklpaaProg
import Derived.Test.YtdgaaghkhkklpaaJ14943df
import Derived.Test.YtdgaaghkhkklpaaJ63e688c
import Derived.Test.YtdgaaghkhkklpaaJ8ff70c6
/- The Writer of layer 3 (field) and its reference: what each method does, as contracts over the program. -/
namespace Go.Proofs.Ytdgaaghkhkklpaa.Fld
open Go.RowKit Var

/-- A slice value of one's own, from its shape. -/
theorem own_nil {w : World} {base n : Nat} {e : TypeId} {v : Value} {xs : List Value} (h : w.ownsRow base e 1 v n xs) : ∃ A c, v = .slice A n c ∧ (A = none → c = 0) := by
  obtain ⟨A, c, h1, _, h2⟩ := own_slice h
  exact ⟨A, c, h1, h2⟩

set_option maxHeartbeats 800000 in
set_option maxRecDepth 100000 in
/-- slices.Clone: a row of its own that reads alike. -/
theorem clone_any (A : Option Addr) (n c B : Nat) (xs : List Int) (w : World) (h : Row .u8 w B A n xs) (hB : B ≤ w.heap.size) (hnil : A = none → c = 0) (hn : n ≤ 4398046511104) :
    Calls Try.prog 44 #[.slice A n c] w fun e w' =>
      ∃ v, e = .returned v ∧ w'.ownsRow w.heap.size 5 1 v n (xs.map (Value.int .u8)) ∧ Below w.heap.size w w' := by
  obtain ⟨i0, hi, hz0, hz1, hz2⟩ := info_parts info_u8
  rcases A with _ | ad
  · have hn0 : n = 0 := by
      rcases Nat.eq_zero_or_pos n with h0 | h0
      · exact h0
      · obtain ⟨_, _, h1, _⟩ := h.2 h0
        cases h1
    subst hn0
    have hx : xs = [] := List.eq_nil_of_length_eq_zero h.1
    subst hx
    rw [hnil rfl]
    have he : ∀ w : World, (binOp .eql 26 (.slice none 0 0) (.slice none 0 0)).run Try.prog w = .ok (.bool true) w := fun _ => rfl
    go_enter Try.func44, Try.ntmps44
    go_wp2
    go_ret
    exact ⟨_, rfl, World.ownsRow_nil _ _ _ _, Below.refl _ _⟩
  · have H := Lib.hid h
    have H2 := Lib.hid hnil
    clear h hnil
    have he : ∀ w : World, (binOp .eql 26 (.slice (some ad) n c) (.slice none 0 0)).run Try.prog w = .ok (.bool false) w := fun _ => rfl
    go_enter Try.func44, Try.ntmps44
    go_wp2_with (at_builtin; refine cat_own rfl (.tmp 5) (.tmp 6) 26 rfl w.heap.size 5 i0 .u8 1 Try.underlying26 hi hz0 hz1 hz2 _ 0 [] rfl (World.ownsRow_made w #[] 0 (Nat.le_refl _) (Nat.zero_le _) rfl) B (some ad) n c xs rfl H2.out (H.out.alloc hB _) (by omega) (by omega) (by simp) ?_; intro v1 w1 hown1 hb1)
    go_ret
    exact ⟨v1, rfl, by simpa using hown1, ((Below.refl _ _).alloc (Nat.le_refl _) _).trans hb1⟩

/-- A Writer behind a pointer: its block, the row that it owns. -/
structure Wr (w : World) (base g : Nat) (v : Value) (n : Nat) (xs : List Int) : Prop where
  blk : w.heap[g]? = some (.cells #[v] 53 (0, 0))
  own : w.ownsRow base 5 1 v n (xs.map (Value.int .u8))
  ne : v.ownBlock ≠ some g
  low : base ≤ g

/-- What a Writer's method may turn, and where its row lies behind it. -/
structure Mv (w w' : World) (g : Nat) (v v' : Value) : Prop where
  only : Only (fun k => k = g ∨ v.ownBlock = some k) w w'
  new : ∀ k, v'.ownBlock = some k → v.ownBlock = some k ∨ w.heap.size ≤ k

theorem Mv.refl (w : World) (g : Nat) (v : Value) : Mv w w g v v := ⟨Only.refl _ _, fun _ h => .inl h⟩
theorem Mv.trans {w w1 w2 : World} {g : Nat} {v v1 v2 : Value} (h : Mv w w1 g v v1) (k : Mv w1 w2 g v1 v2) : Mv w w2 g v v2 := by
  refine ⟨h.only.trans k.only ?_, fun i hi => ?_⟩
  · rintro i hi (rfl | hm)
    · exact .inl rfl
    · rcases h.new i hm with h1 | h1
      · exact .inr h1
      · omega
  · rcases k.new i hi with h1 | h1
    · exact h.new i h1
    · exact .inr (Nat.le_trans h.only.size h1)
theorem Mv.of_below {w w1 : World} {g : Nat} {v : Value} (h : Below w.heap.size w w1) : Mv w w1 g v v := ⟨Only.of_below h, fun _ h => .inl h⟩
theorem Wr.below {w w1 : World} {base g n : Nat} {v : Value} {xs : List Int} (h : Wr w base g v n xs) (hb : Below w.heap.size w w1) : Wr w1 base g v n xs :=
  ⟨(hb.block g (Array.getElem?_eq_some_iff.1 h.blk).1).trans h.blk, own_below h.own hb, h.ne, h.low⟩
theorem Wr.lt {w : World} {base g n : Nat} {v : Value} {xs : List Int} (h : Wr w base g v n xs) : g < w.heap.size := (Array.getElem?_eq_some_iff.1 h.blk).1

def Adds (w : World) (base g : Nat) (v : Value) (n : Nat) (xs ys : List Int) (e : Ending) (w' : World) : Prop :=
  e = .returned (.tuple #[]) ∧ ∃ v', Wr w' base g v' (n + ys.length) (xs ++ ys) ∧ Mv w w' g v v'

theorem after_add {w w1 : World} {base g n m : Nat} {v v1 : Value} {xs : List Int} {zs : List Value} (hw : Wr w base g v n xs) (hown1 : w1.ownsRow base 5 1 v1 m zs) (hg1 : w.grownBy w1 v.ownBlock) (hl1 : v1.ownBlock = v.ownBlock ∨ v1.ownBlock = some w.heap.size) :
    ∃ A1 c1, v1 = .slice A1 m c1 ∧ w1.cell? ⟨g, 0, none⟩ = some v ∧ w1.frozen? ⟨g, 0, none⟩ = false ∧ Hid (w1.ownsRow base 5 1 v1 m zs) ∧ Hid (w.grownBy w1 v.ownBlock) ∧ Hid (v1.ownBlock = v.ownBlock ∨ v1.ownBlock = some w.heap.size) ∧ Hid (v1.ownBlock ≠ some g) ∧ Hid (w1.heap[g]? = some (.cells #[v] 53 (0, 0))) := by
  have hblk : w1.heap[g]? = some (.cells #[v] 53 (0, 0)) := (hg1.block g hw.lt (fun e => hw.ne e.symm)).trans hw.blk
  obtain ⟨A1, c1, h1, -⟩ := own_nil hown1
  refine ⟨A1, c1, h1, cell_of_one hblk, free_of_one hblk, hown1, hg1, hl1, ?_, hblk⟩
  unfold Hid
  rcases hl1 with h | h
  · rw [h]; exact hw.ne
  · rw [h]; intro e; injection e with e; have := hw.lt; omega

set_option maxHeartbeats 800000 in
set_option maxRecDepth 100000 in
theorem add_any (base g n : Nat) (v : Value) (xs : List Int) (A : Option Addr) (m c B : Nat) (ys : List Int) (w : World) (hw : Wr w base g v n xs) (hr : Row .u8 w B A m ys) (hnil : A = none → c = 0) (hn : n + m ≤ 4398046511104) :
    Calls Try.prog 40 #[.pointer (some ⟨g, 0, none⟩), .slice A m c] w (Adds w base g v n xs ys) := by
  obtain ⟨i0, hi, hz0, hz1, hz2⟩ := info_parts info_u8
  have HW := Lib.hid hw
  have HR := Lib.hid hr
  have HN := Lib.hid hnil
  have hc := cell_of_one hw.blk
  have hlow : base ≤ w.heap.size := Nat.le_trans hw.low (Nat.le_of_lt hw.lt)
  clear hw hr hnil
  obtain ⟨A0, c0, rfl, -⟩ := own_nil HW.out.own
  go_enter Try.func40, Try.ntmps40
  go_wp2_with (at_builtin; refine cat_mine rfl (.tmp 10) (.tmp 11) 26 rfl base 5 i0 .u8 1 Try.underlying26 hi hz0 hz1 hz2 (.slice A0 n c0) n xs rfl HW.out.own B A m c ys rfl HN.out HR.out hn (by omega) hlow ?_; intro v1 w1 hown1 hg1 hl1; obtain ⟨A1, c1, rfl, hc1, hf1, HO, HG, HL, HE, HK⟩ := after_add HW.out hown1 hg1 hl1; clear hown1 hg1 hl1)
  go_end0
  have hm : ys.length = m := HR.out.len
  refine ⟨rfl, _, ⟨one_setCell HK.out, by rw [hm]; exact ownsRow_setCell_other HO.out HE.out _, HE.out, HW.out.low⟩, ?_, ?_⟩
  · refine (Only.of_grown HG.out |>.mono (fun i h => Or.inr h)).trans (Only.setCell _ ⟨g, 0, none⟩ _) (fun i _ h => Or.inl h)
  · intro k hk
    rcases HL.out with h | h
    · left; rw [← h]; exact hk
    · right; rw [h] at hk; injection hk with hk; omega

set_option maxHeartbeats 800000 in
set_option maxRecDepth 100000 in
/-- A nil Writer: nothing happens. -/
theorem add_nil (v : Value) (w : World) : Calls Try.prog 40 #[.pointer none, v] w fun e w' => e = .returned (.tuple #[]) ∧ w = w' := by
  go_enter Try.func40, Try.ntmps40
  go_wp2
  go_end0
  exact ⟨rfl, rfl⟩

/-- A number's field. -/
def num (k : Int) : List Int := put k.toNat
theorem num_len {k : Int} (h : k ≤ 9223372036854775807) : (num k).length ≤ 10 := put_len10 (by omega)

theorem Adds.from_below {w w1 w2 : World} {base g n : Nat} {v : Value} {xs ys : List Int} {e : Ending} (hb : Below w.heap.size w w1) (h : Adds w1 base g v n xs ys e w2) : Adds w base g v n xs ys e w2 := by
  obtain ⟨he, v', h1, h2⟩ := h
  exact ⟨he, v', h1, (Mv.of_below hb).trans h2⟩

theorem Wr.below_of {w w' : World} {base g n : Nat} {v v' : Value} {xs : List Int} (h : Wr w base g v n xs) (k : Mv w w' g v v') : Below base w w' :=
  k.only.below (Nat.le_trans h.low (Nat.le_of_lt h.lt)) (fun i hi => by
    rcases hi with rfl | hi
    · exact h.low
    · exact (h.own.lt i hi).1)

set_option maxHeartbeats 800000 in
set_option maxRecDepth 100000 in
theorem number_any (base g n : Nat) (v : Value) (xs : List Int) (k : Int) (w : World) (hw : Wr w base g v n xs) (h2 : k ≤ 9223372036854775807) (hn : n + 10 ≤ 4398046511104) :
    Calls Try.prog 21 #[.pointer (some ⟨g, 0, none⟩), .int .i64 k] w (Adds w base g v n xs (num k)) := by
  have HW := Lib.hid hw
  have HK := Lib.hid h2
  clear hw h2
  have fin : ∀ (v1 : Value) (w1 : World), w1.ownsRow w.heap.size 5 1 v1 (put k.toNat).length ((put k.toNat).map (Value.int .u8)) → Below w.heap.size w w1 →
      Calls Try.prog 40 #[.pointer (some ⟨g, 0, none⟩), v1] w1 (Adds w base g v n xs (num k)) := by
    intro v1 w1 hown hb
    obtain ⟨A, c, rfl, hnil⟩ := own_nil hown
    have := num_len HK.out
    unfold num at this
    exact (add_any base g n v xs A _ c _ _ w1 (HW.out.below hb) (Row.of_own hown) hnil (by omega)).mono fun e w2 h => Adds.from_below hb h
  have FIN := Lib.hid fin
  clear fin
  go_enter Try.func21, Try.ntmps21
  by_cases hk : k < 0
  · have hm : max k 0 = 0 := by omega
    have HZ : Hid (k.toNat = 0) := by unfold Hid; omega
    go_wp2_with fail
    refine (put_any 0 (by omega) _).mono ?_
    rintro e1 w1 ⟨v1, rfl, hown, hb⟩
    rw [← HZ.out] at hown
    go_wp2_with fail
    refine (FIN.out v1 w1 hown hb).mono ?_
    rintro e2 w2 h
    obtain ⟨rfl, -⟩ := id h
    have H := Lib.hid h
    clear h
    go_wp2
    go_end0
    exact H.out
  · have hm : max k 0 = k := by omega
    have hku : IntKind.u64.wrap k = k := IntWalk.u64_in _ ⟨by omega, by have := HK.out; omega⟩
    have HZ : Hid (k = (k.toNat : Int)) := by unfold Hid; omega
    go_wp2_with fail
    have P := put_any k.toNat (by have := HK.out; omega) w
    rw [← HZ.out] at P
    refine P.mono ?_
    clear P
    rintro e1 w1 ⟨v1, rfl, hown, hb⟩
    go_wp2_with fail
    refine (FIN.out v1 w1 hown hb).mono ?_
    rintro e2 w2 h
    obtain ⟨rfl, -⟩ := id h
    have H := Lib.hid h
    clear h
    go_wp2
    go_end0
    exact H.out

/-- A signed number's field. -/
def sgn (k : Int) : List Int := put (turn k).toNat
theorem sgn_len {k : Int} (h1 : -9223372036854775808 ≤ k) (h2 : k ≤ 9223372036854775807) : (sgn k).length ≤ 10 := put_len10 (by have := turn_bd h1 h2; omega)

set_option maxHeartbeats 800000 in
set_option maxRecDepth 100000 in
theorem number_nil (k : Nat) (hk : k ≤ 9223372036854775807) (w : World) : Calls Try.prog 21 #[.pointer none, .int .i64 (k : Int)] w fun e w' => e = .returned (.tuple #[]) ∧ Below w.heap.size w w' := by
  have hm : max (k : Int) 0 = k := by omega
  have hku : IntKind.u64.wrap (k : Int) = k := IntWalk.u64_in _ ⟨by omega, by omega⟩
  have HK := Lib.hid hk
  clear hk
  go_enter Try.func21, Try.ntmps21
  go_wp2_with fail
  refine (put_any k (by have := HK.out; omega) _).mono ?_
  rintro e1 w1 ⟨v1, rfl, -, hb⟩
  go_wp2_with fail
  refine (add_nil _ _).mono ?_
  rintro e2 w2 ⟨rfl, rfl⟩
  go_wp2
  go_end0
  exact ⟨rfl, hb⟩

set_option maxHeartbeats 800000 in
set_option maxRecDepth 100000 in
theorem out_any (base g n : Nat) (v : Value) (xs : List Int) (w : World) (hw : Wr w base g v n xs) (hn : n ≤ 4398046511104) :
    Calls Try.prog 23 #[.pointer (some ⟨g, 0, none⟩)] w fun e w' =>
      ∃ v', e = .returned v' ∧ w'.ownsRow w.heap.size 5 1 v' n (xs.map (Value.int .u8)) ∧ Below w.heap.size w w' := by
  have HW := Lib.hid hw
  have hc := cell_of_one hw.blk
  clear hw
  obtain ⟨A0, c0, rfl, hnil⟩ := own_nil HW.out.own
  have HN := Lib.hid hnil
  clear hnil
  go_enter Try.func23, Try.ntmps23
  go_wp2_with fail
  refine (clone_any A0 n c0 _ xs w (Row.of_own HW.out.own) (Nat.le_refl _) HN.out hn).mono ?_
  rintro e1 w1 ⟨v1, rfl, hown, hb⟩
  go_wp2
  go_ret
  exact ⟨v1, rfl, hown, hb⟩

set_option maxHeartbeats 800000 in
set_option maxRecDepth 100000 in
theorem out_nil (w : World) : Calls Try.prog 23 #[.pointer none] w fun e w' => e = .returned (.slice none 0 0) ∧ w = w' := by
  go_enter Try.func23, Try.ntmps23
  go_wp2
  go_ret
  exact ⟨rfl, rfl⟩

/-- The reference's: a row of its own. -/
def Makes (ys : List Int) (w : World) (e : Ending) (w' : World) : Prop :=
  ∃ v, e = .returned v ∧ w'.ownsRow w.heap.size 5 1 v ys.length (ys.map (Value.int .u8)) ∧ Below w.heap.size w w'

set_option maxHeartbeats 800000 in
set_option maxRecDepth 100000 in
theorem refnumber_any (k : Int) (h2 : k ≤ 9223372036854775807) (w : World) : Calls Try.prog 26 #[.int .i64 k] w (Makes (num k) w) := by
  have HK := Lib.hid h2
  clear h2
  by_cases hk : k < 0
  · have HZ : Hid (k.toNat = 0) := by unfold Hid; omega
    go_enter Try.func26, Try.ntmps26
    go_wp2_with fail
    refine (refput_any 0 (by omega) _).mono ?_
    rintro e1 w1 ⟨v1, rfl, hown, hb⟩
    rw [← HZ.out] at hown
    go_wp2
    go_ret
    exact ⟨v1, rfl, hown, hb⟩
  · have hku : IntKind.u64.wrap k = k := IntWalk.u64_in _ ⟨by omega, by have := HK.out; omega⟩
    have HZ : Hid (k = (k.toNat : Int)) := by unfold Hid; omega
    go_enter Try.func26, Try.ntmps26
    go_wp2_with fail
    have P := refput_any k.toNat (by have := HK.out; omega) w
    rw [← HZ.out] at P
    refine P.mono ?_
    clear P
    rintro e1 w1 ⟨v1, rfl, hown, hb⟩
    go_wp2
    go_ret
    exact ⟨v1, rfl, hown, hb⟩

theorem own_mono {w : World} {base base' n : Nat} {e : TypeId} {v : Value} {xs : List Value} (h : w.ownsRow base e 1 v n xs) (hb : base' ≤ base) : w.ownsRow base' e 1 v n xs := by
  refine ⟨h.1, ?_⟩
  rcases h.2 with h0 | ⟨g, cap, cur, h1, h2, h3⟩
  · exact .inl h0
  · exact .inr ⟨g, cap, cur, h1, Nat.le_trans hb h2, h3⟩
end Go.Proofs.Ytdgaaghkhkklpaa.Fld

/- Plain mathematics of layer 3's Reader: what a field reads as; no program is named here. -/
namespace Go.Proofs.Ytdgaaghkhkklpaa.Fld
open Var

/-- Is an absolute value above what may be? -/
def abv (n : Nat) (most : Int) : Bool := decide (most < 0) || decide (most < (n : Int)) || decide (4611686018427387904 < n)

theorem abv_no {n : Nat} {most : Int} (h : abv n most = false) : 0 ≤ most ∧ (n : Int) ≤ most ∧ n ≤ 4611686018427387904 := by
  unfold abv at h
  simp only [Bool.or_eq_false_iff, decide_eq_false_iff_not] at h
  omega

/-- The next number: its value, its size, the error. -/
def nxt (xs : List Int) (most : Int) : Int × Nat × Nat :=
  if (take 0 0 xs).2.2 ≠ 0 then (0, 0, (take 0 0 xs).2.2)
  else if abv (take 0 0 xs).1 most then (0, 0, 3)
  else ((take 0 0 xs).1, (take 0 0 xs).2.1, 0)

/-- The next signed number. -/
def nxs (xs : List Int) (most : Int) : Int × Nat × Nat :=
  if (take 0 0 xs).2.2 ≠ 0 then (0, 0, (take 0 0 xs).2.2)
  else if abv (back (take 0 0 xs).1).natAbs most then (0, 0, 3)
  else (back (take 0 0 xs).1, (take 0 0 xs).2.1, 0)

/-- The next byte. -/
def nxb : List Int → Int × Nat × Nat
  | [] => (0, 0, 10)
  | x :: _ => (x, 1, 0)

/-- The next bytes. -/
def nxl (xs : List Int) (most : Int) : List Int × Nat × Nat :=
  if (nxt xs most).2.2 ≠ 0 then ([], 0, (nxt xs most).2.2)
  else if (xs.length : Int) - (nxt xs most).2.1 < (nxt xs most).1 then ([], 0, 10)
  else ((xs.drop (nxt xs most).2.1).take (nxt xs most).1.toNat, (nxt xs most).2.1 + (nxt xs most).1.toNat, 0)

theorem take_lim : ∀ (xs : List Int) (i X : Nat), (∀ x ∈ xs, 0 ≤ x ∧ x ≤ 255) → X < 128 ^ i → i ≤ 9 → (take X i xs).1 < 18446744073709551616
  | [], i, X, _, _, _ => by simp [take]
  | c :: cs, i, X, hb, hX, hi => by
    have hc := hb c (by simp)
    have hcs : ∀ x ∈ cs, 0 ≤ x ∧ x ≤ 255 := fun x hx => hb x (by simp [hx])
    by_cases e1 : i = 9 ∧ 1 < c
    · simp [take, if_pos e1]
    have hm : c.toNat % 128 ≤ 127 := by omega
    have h1 : X + c.toNat % 128 * 128 ^ i < 128 ^ (i + 1) := by
      have := Nat.mul_le_mul_right (128 ^ i) hm
      rw [Nat.pow_succ]
      omega
    have h2 : X + c.toNat % 128 * 128 ^ i < 18446744073709551616 := by
      by_cases e : i = 9
      · subst e
        have hd : c.toNat % 128 ≤ 1 := by omega
        have := Nat.mul_le_mul_right (128 ^ 9) hd
        omega
      · have : 128 ^ (i + 1) ≤ 128 ^ 9 := Nat.pow_le_pow_right (by omega) (by omega)
        omega
    by_cases e2 : c < 128
    · by_cases e3 : c = 0 ∧ 0 < i
      · simp [take, if_pos e2, if_pos e3]
      · simp only [take, if_neg e1, if_pos e2, if_neg e3]
        exact h2
    · have hv : take X i (c :: cs) = take (X + c.toNat % 128 * 128 ^ i) (i + 1) cs := by simp [take, if_neg e1, if_neg e2]
      rw [hv]
      exact take_lim cs (i + 1) _ hcs h1 (by omega)

theorem take64 {xs : List Int} (hb : ∀ x ∈ xs, 0 ≤ x ∧ x ≤ 255) : (take 0 0 xs).1 < 18446744073709551616 := take_lim xs 0 0 hb (by simp) (by omega)
theorem take_size {xs : List Int} (hb : ∀ x ∈ xs, 0 ≤ x ∧ x ≤ 255) (h : (take 0 0 xs).2.2 = 0) : 0 < (take 0 0 xs).2.1 ∧ (take 0 0 xs).2.1 ≤ xs.length := by
  obtain ⟨m, _, _, h3, h4, _⟩ := put_take xs 0 0 hb h
  omega
theorem take_err (xs : List Int) (i X : Nat) : (take X i xs).2.2 = 0 ∨ (take X i xs).2.2 = 10 ∨ (take X i xs).2.2 = 11 := by
  induction xs generalizing i X with
  | nil => simp [take]
  | cons c cs ih =>
    simp only [take]
    split
    · simp
    · split
      · split <;> simp
      · exact ih _ _
theorem nxt_ok {xs : List Int} {most : Int} (hb : ∀ x ∈ xs, 0 ≤ x ∧ x ≤ 255) (h : (nxt xs most).2.2 = 0) : 0 < (nxt xs most).2.1 ∧ (nxt xs most).2.1 ≤ xs.length ∧ 0 ≤ (nxt xs most).1 ∧ (nxt xs most).1 ≤ 4611686018427387904 := by
  unfold nxt at h ⊢
  by_cases he : (take 0 0 xs).2.2 ≠ 0
  · rw [if_pos he] at h
    exact absurd h he
  · rw [if_neg he] at h ⊢
    cases ha : abv (take 0 0 xs).1 most with
    | true => rw [ha] at h; simp at h
    | false =>
      have h1 := abv_no ha
      have h2 := take_size hb (by omega)
      simp only [Bool.false_eq_true, if_false]
      omega
theorem nxs_ok {xs : List Int} {most : Int} (hb : ∀ x ∈ xs, 0 ≤ x ∧ x ≤ 255) (h : (nxs xs most).2.2 = 0) : 0 < (nxs xs most).2.1 ∧ (nxs xs most).2.1 ≤ xs.length := by
  unfold nxs at h ⊢
  by_cases he : (take 0 0 xs).2.2 ≠ 0
  · rw [if_pos he] at h
    exact absurd h he
  · rw [if_neg he] at h ⊢
    cases ha : abv (back (take 0 0 xs).1).natAbs most with
    | true => rw [ha] at h; simp at h
    | false =>
      have h2 := take_size hb (by omega)
      simp only [Bool.false_eq_true, if_false]
      omega
theorem nxb_ok {xs : List Int} (h : (nxb xs).2.2 = 0) : 0 < (nxb xs).2.1 ∧ (nxb xs).2.1 ≤ xs.length := by
  cases xs with
  | nil => simp [nxb] at h
  | cons x xs => simp [nxb]
theorem nxl_ok {xs : List Int} {most : Int} (hb : ∀ x ∈ xs, 0 ≤ x ∧ x ≤ 255) (h : (nxl xs most).2.2 = 0) : 0 < (nxl xs most).2.1 ∧ (nxl xs most).2.1 ≤ xs.length := by
  unfold nxl at h ⊢
  by_cases he : (nxt xs most).2.2 ≠ 0
  · rw [if_pos he] at h
    exact absurd h he
  · rw [if_neg he] at h ⊢
    obtain ⟨h1, h2, h3, _⟩ := nxt_ok (most := most) hb (by omega)
    by_cases hx : (xs.length : Int) - (nxt xs most).2.1 < (nxt xs most).1
    · rw [if_pos hx] at h
      simp at h
    · rw [if_neg hx]
      simp only
      omega
end Go.Proofs.Ytdgaaghkhkklpaa.Fld
