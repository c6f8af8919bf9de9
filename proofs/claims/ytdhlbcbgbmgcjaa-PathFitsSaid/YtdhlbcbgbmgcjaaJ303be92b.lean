/- Lemmas that the proof stands on, in build order: HqO0 HpM MixV HqD. -/
import Derived.WalkKit
import Derived.BigRegion
import Derived.Test.YtdhlbcbgbmgcjaaJ10828d9b
import Derived.Test.YtdhlbcbgbmgcjaaJ1a85310
import Derived.Test.YtdhlbcbgbmgcjaaJ20d5a7c
import Derived.Test.YtdhlbcbgbmgcjaaJ2538e119
import Derived.Test.YtdhlbcbgbmgcjaaJ6ea7323
import Derived.Test.YtdhlbcbgbmgcjaaJ97acb16
/- Layer 16 (heap): what the functions of a heap must do, for any order, over any way to keep it in memory. -/
namespace Go.Proofs.Ytdhlbcbgbmgcjaa.Hq
open Go.RowKit Rec Ints Ge

/-- A strict weak order. -/
structure Swo {α : Type} (lt : α → α → Bool) : Prop where
  irrefl : ∀ x, lt x x = false
  trans : ∀ x y z, lt x y = true → lt y z = true → lt x z = true
  ntrans : ∀ x y z, lt x y = false → lt y z = false → lt x z = false
/-- What the functions of a heap (0: New, 1: Push, 2: Pop, 3: Len) do: M: the blocks that are the heap's own; L: what is in it, in whatever order. -/
structure HeapOk {α : Type} (F : Nat → FuncId) (enc : α → Value) (zero : α) (lt : α → α → Bool) (B : Nat) (Inv : World → Prop) (less : Value) (Hp : World → (Nat → Prop) → Addr → List α → Prop) : Prop where
  lies : ∀ {w : World} {M : Nat → Prop} {a : Addr} {L : List α}, Hp w M a L → ∀ k, M k → B ≤ k ∧ k < w.heap.size
  keep : ∀ {w w' : World} {M : Nat → Prop} {a : Addr} {L : List α}, Hp w M a L → w.heap.size ≤ w'.heap.size → (∀ k, M k → w'.heap[k]? = w.heap[k]?) → Hp w' M a L
  new : ∀ w : World, Inv w → B ≤ w.heap.size → Calls Try.prog (F 0) #[less] w fun e w' => ∃ a M, e = .returned (.pointer (some a)) ∧ Hp w' M a [] ∧ (∀ k, M k → w.heap.size ≤ k) ∧ Below w.heap.size w w'
  push : ∀ (w : World) (M : Nat → Prop) (a : Addr) (L : List α) (x : α), Inv w → Hp w M a L → L.length ≤ 50000 →
    Calls Try.prog (F 1) #[.pointer (some a), enc x] w fun e w' => e = .returned (.tuple #[]) ∧ ∃ M', Hp w' M' a (x :: L) ∧ Only M w w' ∧ ∀ k, M' k → M k ∨ w.heap.size ≤ k
  pop0 : ∀ (w : World) (M : Nat → Prop) (a : Addr), Inv w → Hp w M a [] →
    Calls Try.prog (F 2) #[.pointer (some a)] w fun e w' => e = .returned (.tuple #[enc zero, .bool false]) ∧ ∃ M', Hp w' M' a [] ∧ Only M w w' ∧ ∀ k, M' k → M k ∨ w.heap.size ≤ k
  pop : ∀ (w : World) (M : Nat → Prop) (a : Addr) (L : List α), Inv w → Hp w M a L → L ≠ [] → L.length ≤ 50000 →
    Calls Try.prog (F 2) #[.pointer (some a)] w fun e w' => ∃ x L', e = .returned (.tuple #[enc x, .bool true]) ∧ L.Perm (x :: L') ∧ (∀ y ∈ L', lt y x = false) ∧ ∃ M', Hp w' M' a L' ∧ Only M w w' ∧ ∀ k, M' k → M k ∨ w.heap.size ≤ k
  len : ∀ (w : World) (M : Nat → Prop) (a : Addr) (L : List α), Inv w → Hp w M a L → L.length ≤ 50000 → Calls Try.prog (F 3) #[.pointer (some a)] w fun e w' => e = .returned (.int .i64 (L.length : Int)) ∧ Below w.heap.size w w'
/-- .. and Top. -/
structure TopOk {α : Type} (f : FuncId) (enc : α → Value) (zero : α) (lt : α → α → Bool) (Inv : World → Prop) (Hp : World → (Nat → Prop) → Addr → List α → Prop) : Prop where
  top0 : ∀ (w : World) (M : Nat → Prop) (a : Addr), Inv w → Hp w M a [] → Calls Try.prog f #[.pointer (some a)] w fun e w' => e = .returned (.tuple #[enc zero, .bool false]) ∧ Below w.heap.size w w'
  top : ∀ (w : World) (M : Nat → Prop) (a : Addr) (L : List α), Inv w → Hp w M a L → L ≠ [] → L.length ≤ 50000 →
    Calls Try.prog f #[.pointer (some a)] w fun e w' => ∃ x, e = .returned (.tuple #[enc x, .bool true]) ∧ x ∈ L ∧ (∀ y ∈ L, lt y x = false) ∧ Below w.heap.size w w'
/-- .. for every order that a closure tells. -/
def TypeOk {α : Type} (F : Nat → FuncId) (T : Option FuncId) (enc : α → Value) (zero : α) : Prop :=
  ∀ (lt : α → α → Bool) (B : Nat) (Inv : World → Prop) (g : FuncId) (lb : Array Value), Swo lt → (∀ w w' : World, Inv w → B ≤ w.heap.size → Below B w w' → Inv w') → (∀ args w, (callFunc g args).run Try.prog w = .ok (.enter g args) w) →
    (∀ (x y : α) (w : World), Inv w → B ≤ w.heap.size → Calls Try.prog g (#[enc x, enc y] ++ lb) w fun e w' => e = .returned (.bool (lt x y)) ∧ Below w.heap.size w w') →
    ∃ Hp, HeapOk F enc zero lt B Inv (.func (.func g) #[] lb) Hp ∧ ∀ f, T = some f → TopOk f enc zero lt Inv Hp
end Go.Proofs.Ytdhlbcbgbmgcjaa.Hq

/- Layer 16 (heap) as plain mathematics: a list in which no element comes before the one above it; no program's text is named here. -/
namespace Go.Proofs.Ytdhlbcbgbmgcjaa.Hp

/-- A strict weak order. -/
structure Swo {α : Type} (lt : α → α → Bool) : Prop where
  asymm : ∀ a b, lt a b = true → lt b a = false
  trans : ∀ a b c, lt b a = false → lt c b = false → lt c a = false
section
variable {α : Type} [Inhabited α] {lt : α → α → Bool} {l : List α} {n k c : Nat}
def G (l : List α) (k : Nat) : α := l.getD k default
def sw (l : List α) (i j : Nat) : List α := (l.set i (G l j)).set j (G l i)
theorem sw_len (l : List α) (i j : Nat) : (sw l i j).length = l.length := by simp [sw]
theorem G_at {l : List α} {i : Nat} (h : i < l.length) : G l i = l[i] := by simp [G, h]
theorem sw_at {l : List α} {i j : Nat} (hi : i < l.length) (hj : j < l.length) (m : Nat) : G (sw l i j) m = if m = j then G l i else if m = i then G l j else G l m := by
  unfold sw G
  simp only [List.getD_eq_getElem?_getD, List.getElem?_set, List.length_set]
  by_cases c1 : m = j
  · subst c1
    simp [hj]
  · rw [if_neg (fun e => c1 e.symm), if_neg c1]
    by_cases c2 : m = i
    · subst c2
      simp [hi]
    · rw [if_neg (fun e => c2 e.symm), if_neg c2]
theorem sw_perm {l : List α} {i j : Nat} (hi : i < l.length) (hj : j < l.length) : (sw l i j).Perm l := by
  unfold sw
  rw [G_at hi, G_at hj]
  exact List.set_set_perm hi hj
/-- No element comes before the one above it. -/
def Hp (lt : α → α → Bool) (l : List α) (n : Nat) : Prop := ∀ j, 0 < j → j < n → lt (G l j) (G l ((j - 1) / 2)) = false
/-- The same but for one that may come before the one above it. -/
structure Up (lt : α → α → Bool) (l : List α) (n k : Nat) : Prop where
  ok : ∀ j, 0 < j → j < n → j ≠ k → lt (G l j) (G l ((j - 1) / 2)) = false
  two : ∀ j, 0 < j → j < n → (j - 1) / 2 = k → 0 < k → lt (G l j) (G l ((k - 1) / 2)) = false
/-- The same but for those below one. -/
structure Dn (lt : α → α → Bool) (l : List α) (n k : Nat) : Prop where
  ok : ∀ j, 0 < j → j < n → (j - 1) / 2 ≠ k → lt (G l j) (G l ((j - 1) / 2)) = false
  two : ∀ j, 0 < j → j < n → (j - 1) / 2 = k → 0 < k → lt (G l j) (G l ((k - 1) / 2)) = false
theorem Up.done (h : Up lt l n k) (hk : k = 0 ∨ lt (G l k) (G l ((k - 1) / 2)) = false) : Hp lt l n := fun j h0 hn => by
  by_cases c : j = k
  · subst c
    rcases hk with rfl | hk
    · omega
    · exact hk
  · exact h.ok j h0 hn c
theorem Up.step (hs : Swo lt) (h : Up lt l n k) (hk0 : 0 < k) (hkn : k < n) (hl : n ≤ l.length) (hlt : lt (G l k) (G l ((k - 1) / 2)) = true) : Up lt (sw l k ((k - 1) / 2)) n ((k - 1) / 2) := by
  obtain ⟨p, hp⟩ : ∃ p, p = (k - 1) / 2 := ⟨_, rfl⟩
  rw [← hp] at hlt ⊢
  have hpk : p < k := by omega
  have hkl : k < l.length := by omega
  have hpl : p < l.length := by omega
  have hpk' := hs.asymm _ _ hlt
  constructor
  · intro j h0 hn hne
    rw [sw_at hkl hpl, sw_at hkl hpl]
    by_cases c1 : j = k
    · subst c1
      rw [if_neg (by omega), if_pos rfl, if_pos hp.symm]
      exact hpk'
    · rw [if_neg hne, if_neg c1]
      by_cases c2 : (j - 1) / 2 = p
      · rw [if_pos c2]
        have h1 := h.ok j h0 hn c1
        rw [c2] at h1
        exact hs.trans _ _ _ hpk' h1
      · rw [if_neg c2]
        by_cases c3 : (j - 1) / 2 = k
        · rw [if_pos c3]
          have h1 := h.two j h0 hn c3 hk0
          rw [← hp] at h1
          exact h1
        · rw [if_neg c3]
          exact h.ok j h0 hn c1
  · intro j h0 hn hj hp0
    have hq : (p - 1) / 2 < p := by omega
    rw [sw_at hkl hpl, sw_at hkl hpl, if_neg (show ¬ (p - 1) / 2 = p by omega), if_neg (show ¬ (p - 1) / 2 = k by omega)]
    have h2 := h.ok p hp0 (by omega) (by omega)
    by_cases c1 : j = k
    · subst c1
      rw [if_neg (by omega), if_pos rfl]
      exact h2
    · rw [if_neg (by omega), if_neg c1]
      have h1 := h.ok j h0 hn c1
      rw [hj] at h1
      exact hs.trans _ _ _ h2 h1
theorem Dn.done (h : Dn lt l n k) (hk : ∀ j, 0 < j → j < n → (j - 1) / 2 = k → lt (G l j) (G l k) = false) : Hp lt l n := fun j h0 hn => by
  by_cases c : (j - 1) / 2 = k
  · rw [c]; exact hk j h0 hn c
  · exact h.ok j h0 hn c
theorem Dn.step (hs : Swo lt) (h : Dn lt l n k) (hc0 : 0 < c) (hcn : c < n) (hck : (c - 1) / 2 = k) (hl : n ≤ l.length) (hlt : lt (G l c) (G l k) = true) (hoth : ∀ j, 0 < j → j < n → (j - 1) / 2 = k → lt (G l j) (G l c) = false) : Dn lt (sw l k c) n c := by
  have hkc : k < c := by omega
  have hcl : c < l.length := by omega
  have hkl : k < l.length := by omega
  constructor
  · intro j h0 hn hne
    rw [sw_at hkl hcl, sw_at hkl hcl, if_neg hne]
    by_cases c1 : j = c
    · subst c1
      rw [if_pos rfl, if_pos hck]
      exact hs.asymm _ _ hlt
    · rw [if_neg c1]
      by_cases c2 : (j - 1) / 2 = k
      · rw [if_neg (by omega), if_pos c2]
        exact hoth j h0 hn c2
      · rw [if_neg c2]
        by_cases c3 : j = k
        · rw [if_pos c3]
          subst c3
          exact h.two c hc0 hcn hck h0
        · rw [if_neg c3]
          exact h.ok j h0 hn c2
  · intro j h0 hn hj _
    rw [sw_at hkl hcl, sw_at hkl hcl, if_neg (by omega), if_neg (by omega), if_neg (by omega), if_pos hck]
    have h1 := h.ok j h0 hn (by omega)
    rw [hj] at h1
    exact h1
/-- The top comes first. -/
theorem Hp.top (hs : Swo lt) (hi : ∀ a, lt a a = false) (h : Hp lt l n) : ∀ i, i < n → lt (G l i) (G l 0) = false := by
  intro i
  induction i using Nat.strongRecOn with
  | _ i ih =>
    intro hn
    by_cases c0 : i = 0
    · subst c0; exact hi _
    · exact hs.trans _ _ _ (ih ((i - 1) / 2) (by omega) (by omega)) (h i (by omega) hn)
theorem Hp.push (h : Hp lt l l.length) (x : α) : Up lt (l ++ [x]) (l.length + 1) l.length := by
  have e : ∀ j, j < l.length → G (l ++ [x]) j = G l j := fun j hj => by unfold G; simp [List.getD_eq_getElem?_getD, List.getElem?_append_left hj]
  constructor
  · intro j h0 hn hne
    rw [e j (by omega), e ((j - 1) / 2) (by omega)]
    exact h j h0 (by omega)
  · intro j h0 hn hj hk
    omega
/-- The top goes, the last one comes in its place. -/
def cut (l : List α) : List α := (l.set 0 (G l (l.length - 1))).take (l.length - 1)
theorem cut_at {j : Nat} (h0 : 0 < j) (hj : j < l.length - 1) : G (cut l) j = G l j := by
  unfold G cut
  simp only [List.getD_eq_getElem?_getD]
  rw [List.getElem?_take, if_pos hj, List.getElem?_set, if_neg (by omega)]
theorem Hp.cut (h : Hp lt l l.length) : Dn lt (cut l) (l.length - 1) 0 := by
  constructor
  · intro j h0 hn hne
    rw [cut_at h0 hn, cut_at (by omega) (by omega)]
    exact h j h0 (by omega)
  · intro j h0 hn hj hk
    omega
theorem cut_perm (h : 0 < l.length) : (G l 0 :: cut l).Perm l := by
  match l, h with
  | [x], _ => simp [G, cut]
  | x :: y :: r, _ =>
    have e : (y :: r).getD ((y :: r).length - 1) default = (y :: r).getLast (by simp) := by
      rw [List.getLast_eq_getElem]
      simp [List.getD_eq_getElem?_getD]
    have e2 : cut (x :: y :: r) = (y :: r).getLast (by simp) :: (y :: r).dropLast := by
      unfold cut G
      rw [← e]
      simp [List.dropLast_eq_take]
    rw [e2]
    have e3 : G (x :: y :: r) 0 = x := rfl
    rw [e3]
    refine List.Perm.cons x ?_
    have h1 := List.dropLast_concat_getLast (l := y :: r) (by simp)
    exact (List.perm_append_singleton _ _).symm.trans (by rw [h1])
end
/-- Numbers in order: a list that says the same in another order, whose top is its first. -/
theorem top_of {l w : List Int} (hp : l.Perm w) (hl : ∀ i, i < l.length → decide (G l i < G l 0) = false) {x : Int} {r : List Int} (hw : w = x :: r) (hs : ∀ y ∈ r, x ≤ y) (h0 : 0 < l.length) : G l 0 = x := by
  have h1 : G l 0 ∈ w := hp.mem_iff.1 (by rw [G_at h0]; exact List.getElem_mem h0)
  have h2 : x ∈ l := hp.mem_iff.2 (by rw [hw]; simp)
  obtain ⟨i, hi, he⟩ := List.getElem_of_mem h2
  have h3 := hl i hi
  rw [G_at hi, he] at h3
  have h4 := of_decide_eq_false h3
  rw [hw] at h1
  rcases List.mem_cons.1 h1 with h5 | h5
  · exact h5
  · have := hs _ h5; omega
end Go.Proofs.Ytdhlbcbgbmgcjaa.Hp

/- A region that draws its order and calls a function value, by its contract (for Mix's walk). Over any program. -/
namespace Go.Proofs.Ytdhlbcbgbmgcjaa.Mix
open Go.RowKit

section
variable {P : Program} {ops : Array Oper} {S : World → Prop} {Q : Exit → Act → World → Prop}
theorem lex_callv {o : Oper} {rest : List Oper} {a : Act} {w : World} {x : Operand} {f : FuncId} {lb : Array Value} {xs : List Operand} {ts : Array TypeId} {args : List Value} {R : Ending → World → Prop} (hc : Calls P f (args.toArray ++ lb) w R) (hw : Region.wanted o (yielded ops a.tmps) = true) (ho : o.op = .call { callee := .value x, args := xs.toArray, argTypes := ts })
    (hx : a.eval x = .func (.func f) #[] lb) (hargs : xs.map a.eval = args) (hent : ∀ args w, (callFunc f args).run P w = .ok (.enter f args) w)
    (h : ∀ e w', R e w' → ∃ v, e = .returned v ∧ S w' ∧ wpLex P ops S Q rest (a.put o.dst v) w') : wpLex P ops S Q (o :: rest) a w := by
  unfold wpLex stepL
  rw [if_pos hw, if_neg (by rw [ho]; simp [plain])]
  have he : (execOp a.eval o).run P w = .ok (.enter f (args.toArray ++ lb)) w := by
    simp only [execOp, ho, resolve, Sem.run_bind, List.map_toArray, hargs, hx, Deferred.ofValue, Sem.run_pure, Result.andThen_ok, Array.empty_append, invoke]
    exact hent _ w
  unfold actv
  rw [he]
  exact hc.mono h
end
end Go.Proofs.Ytdhlbcbgbmgcjaa.Mix

/- Layer 16 (heap), the landed code at Int × Int: how a heap lies in memory; made, Len, before, swap. -/
namespace Go.Proofs.Ytdhlbcbgbmgcjaa.Hq.D
open Go.RowKit Rec Ints Ge

abbrev El := Int × Int
theorem made_any (w : World) (b : Nat) (g : FuncId) (lb : Array Value) (v : Value) (h : w.heap[b]? = some (.cells #[.func (.func g) #[] lb, v] 77 (0, 0))) :
    Calls Try.prog 36 #[.pointer (some ⟨b, 0, none⟩)] w fun e w' => e = .returned (.bool true) ∧ Below w.heap.size w w' := by
  have c0 : w.cell? ⟨b, 0, none⟩ = some (.func (.func g) #[] lb) := cell_of_blk h rfl
  have hq : ∀ w : World, (binOp BinOp.neq 63 (Value.func (Fn.func g) #[] lb) Value.nilFunc).run Try.prog w = .ok (.bool true) w := fun w => by rfl
  clear h
  go_enter Try.func36, Try.ntmps36
  go_wp2
  go_ret
  exact ⟨rfl, Below.refl _ _⟩
theorem made_nil (w : World) :
    Calls Try.prog 36 #[.pointer none] w fun e w' => e = .returned (.bool false) ∧ Below w.heap.size w w' := by
  go_enter Try.func36, Try.ntmps36
  go_wp2
  go_ret
  exact ⟨rfl, Below.refl _ _⟩
theorem len_any (w : World) (b : Nat) (g : FuncId) (lb : Array Value) (A : Option Addr) (n c : Nat) (h : w.heap[b]? = some (.cells #[.func (.func g) #[] lb, .slice A n c] 77 (0, 0))) :
    Calls Try.prog 49 #[.pointer (some ⟨b, 0, none⟩)] w fun e w' => e = .returned (.int .i64 (n : Int)) ∧ Below w.heap.size w w' := by
  have H := Lib.hid h
  have HM := Lib.hid (made_any w b g lb _ h)
  have hlt : b < w.heap.size := (Array.getElem?_eq_some_iff.1 h).1
  clear h
  go_enter Try.func49, Try.ntmps49
  go_wp2_with fail
  refine HM.out.mono ?_
  rintro e1 w1 ⟨rfl, hb1⟩
  have c1 : w1.cell? ⟨b, 1, none⟩ = some (.slice A n c) := cell_of_blk ((hb1.block b hlt).trans H.out) rfl
  have HB := Lib.hid hb1
  clear HM hb1
  go_wp2
  go_ret
  exact ⟨rfl, HB.out⟩
theorem len_nil (w : World) :
    Calls Try.prog 49 #[.pointer none] w fun e w' => e = .returned (.int .i64 0) ∧ Below w.heap.size w w' := by
  have HM := Lib.hid (made_nil w)
  go_enter Try.func49, Try.ntmps49
  go_wp2_with fail
  refine HM.out.mono ?_
  rintro e1 w1 ⟨rfl, hb1⟩
  have HB := Lib.hid hb1
  clear HM hb1
  go_wp2
  go_ret
  exact ⟨rfl, HB.out⟩
/-- An element in its place. -/
theorem el_at {w : World} {base g cap j : Nat} {e : TypeId} {L : List El} {x : El} (h : Hold twoS w base e g cap L) (hj : L[j]? = some x) : w.cell? ⟨g, j * 2, none⟩ = some (.int .i64 x.1) ∧ w.cell? ⟨g, j * 2 + 1, none⟩ = some (.int .i64 x.2) := by
  have h1 := h.cells hj
  exact ⟨h1 0 (by show 0 < 2; omega), h1 1 (by show 1 < 2; omega)⟩
/-- What the closure must do. -/
structure Less (lt : El → El → Bool) (B : Nat) (Inv : World → Prop) (g : FuncId) (lb : Array Value) : Prop where
  swo : Swo lt
  keep : ∀ w w' : World, Inv w → B ≤ w.heap.size → Below B w w' → Inv w'
  ent : ∀ args w, (callFunc g args).run Try.prog w = .ok (.enter g args) w
  tells : ∀ (x y : El) (w : World), Inv w → B ≤ w.heap.size → Calls Try.prog g (#[pl x, pl y] ++ lb) w fun e w' => e = .returned (.bool (lt x y)) ∧ Below w.heap.size w w'
/-- A heap's two blocks: its list is not empty, or has been. -/
structure Lies (w : World) (B : Nat) (f : FuncId) (lb : Array Value) (b g cap n : Nat) (l : List El) : Prop where
  blk : w.heap[b]? = some (.cells #[.func (.func f) #[] lb, .slice (some ⟨g, 0, none⟩) n cap] 77 (0, 0))
  hold : Hold twoS w B 62 g cap l
  len : l.length = n
  ne : b ≠ g
  le : B ≤ b
theorem Lies.below {w w' : World} {B : Nat} {f : FuncId} {lb : Array Value} {b g cap n : Nat} {l : List El} (h : Lies w B f lb b g cap n l) (hb : Below w.heap.size w w') : Lies w' B f lb b g cap n l :=
  ⟨(hb.block b (Array.getElem?_eq_some_iff.1 h.blk).1).trans h.blk, h.hold.below hb, h.len, h.ne, h.le⟩
theorem before_any (lt : El → El → Bool) (B : Nat) (Inv : World → Prop) (f : FuncId) (lb : Array Value) (hL : Less lt B Inv f lb) (w : World) (b g cap n i j : Nat) (l : List El) (x y : El) (hi : Inv w) (hl : Lies w B f lb b g cap n l) (hx : l[i]? = some x) (hy : l[j]? = some y) :
    Calls Try.prog 48 #[.pointer (some ⟨b, 0, none⟩), .int .i64 (i : Int), .int .i64 (j : Int)] w fun e w' => e = .returned (.bool (lt x y)) ∧ Below w.heap.size w w' := by
  have hil : i < n := by have := (List.getElem?_eq_some_iff.1 hx).1; have := hl.len; omega
  have hjl : j < n := by have := (List.getElem?_eq_some_iff.1 hy).1; have := hl.len; omega
  have hBs : B ≤ w.heap.size := by have := (Array.getElem?_eq_some_iff.1 hl.blk).1; have := hl.le; omega
  have H := Lib.hid hl
  have HX := Lib.hid hx
  have HY := Lib.hid hy
  have HI := Lib.hid hi
  have HL := Lib.hid hL
  have HBS := Lib.hid hBs
  clear hl hx hy hi hL hBs
  go_enter Try.func48, Try.ntmps48
  go_wp2
  obtain ⟨ι, hne, W, i0, h0, hW, hC⟩ := fam_of w
  have HW : ∀ k, Hid (Below w.heap.size w (W k)) := fun k => hW k
  have HLW : ∀ k, Hid (Lies (W k) B f lb b g cap n l) := fun k => H.out.below (hW k)
  have c0 : ∀ k, (W k).cell? ⟨b, 0, none⟩ = some (.func (.func f) #[] lb) := fun k => cell_of_blk (HLW k).out.blk rfl
  have c1 : ∀ k, (W k).cell? ⟨b, 1, none⟩ = some (.slice (some ⟨g, 0, none⟩) n cap) := fun k => cell_of_blk (HLW k).out.blk rfl
  have x0 : ∀ k, (W k).cell? ⟨g, i * 2, none⟩ = some (.int .i64 x.1) := fun k => (el_at (HLW k).out.hold HX.out).1
  have x1 : ∀ k, (W k).cell? ⟨g, i * 2 + 1, none⟩ = some (.int .i64 x.2) := fun k => (el_at (HLW k).out.hold HX.out).2
  have y0 : ∀ k, (W k).cell? ⟨g, j * 2, none⟩ = some (.int .i64 y.1) := fun k => (el_at (HLW k).out.hold HY.out).1
  have y1 : ∀ k, (W k).cell? ⟨g, j * 2 + 1, none⟩ = some (.int .i64 y.2) := fun k => (el_at (HLW k).out.hold HY.out).2
  have a1 : (0 : Int) ≤ (i : Int) := by omega
  have a2 : (i : Int) < (n : Int) := by omega
  have a3 : (0 : Int) ≤ (j : Int) := by omega
  have a4 : (j : Int) < (n : Int) := by omega
  have HT := Lib.hid (HL.out.tells x y (W i0) (HL.out.keep w (W i0) HI.out HBS.out ((hW i0).mono HBS.out)) (Nat.le_trans HBS.out (hW i0).size))
  clear hW
  refine Mix.wp_region_lex (fun w' => ∃ i, w' = W i) (by kernel_rfl) (by kernel_rfl) ⟨i0, h0⟩ ?_
  rw [h0]
  clear h0
  repeat (first | (refine Mix.lex_step rfl ?_; intro K hK; go_big_quiet_step (fail); refine Mix.lex_on hK ?_; clear hK K) | (refine Mix.lex_skip rfl ?_; simp only [Act.put, List.setIfInBounds_toArray, List.set_cons_zero, List.set_cons_succ]))
  refine Mix.lex_callv (f := f) (lb := lb) (args := [pl x, pl y]) HT.out rfl rfl rfl rfl HL.out.ent ?_
  rintro e3 w3 ⟨rfl, hb3⟩
  obtain ⟨j3, rfl⟩ := hC _ w3 hb3
  refine ⟨_, rfl, ⟨j3, rfl⟩, ?_⟩
  simp only [Act.put, List.setIfInBounds_toArray, List.set_cons_zero, List.set_cons_succ]
  repeat (first | (refine Mix.lex_step rfl ?_; intro K hK; go_big_quiet_step (fail); refine Mix.lex_on hK ?_; clear hK K) | (refine Mix.lex_skip rfl ?_; simp only [Act.put, List.setIfInBounds_toArray, List.set_cons_zero, List.set_cons_succ]))
  refine Mix.lex_nil ?_
  have HB9 := HW j3
  generalize W j3 = w9 at HB9 ⊢
  clear HW hC c0 c1 x0 x1 y0 y1 HLW
  go_wp2
  go_ret
  exact ⟨rfl, HB9.out⟩
end Go.Proofs.Ytdhlbcbgbmgcjaa.Hq.D
