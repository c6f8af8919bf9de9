/- Lemmas that the proof stands on, in build order: Mix. -/
import Derived.WalkKit
import Derived.OrdersHeld
import Derived.Deep.QuietTactic
import Derived.BigQuiet
import Derived.Deep.RegionHeld
import Derived.Test.YtdhlbcbgbmgcjaaJ1a85310
/- A region that draws its order, over any program: ONE walk in the text's order serves every order, where the operations that make or write memory (and the calls) come one after another in any order that may be drawn, and every other one yields one value in every world of a class S. Behind a call the world is the call's own. -/
namespace Go.Proofs.Ytdhlbcbgbmgcjaa.Mix
open Go.RowKit

/-- What only reckons and reads. -/
def plain : Op → Bool
  | .move _ => true
  | .assign _ => true
  | .pick _ _ _ => true
  | .load _ _ => true
  | .binOp _ _ _ _ _ => true
  | .unOp _ _ _ => true
  | .convert _ _ _ => true
  | .slice _ _ _ _ _ => true
  | .fieldAddr _ _ _ => true
  | .field _ _ _ => true
  | .indexAddr _ _ _ => true
  | .index _ _ _ => true
  | .extract _ _ => true
  | .build _ _ => true
  | .lookup _ _ _ _ => true
  | .nilCheck _ => true
  | .makeFunc _ _ _ => true
  | .call c => match c.callee with
    | .builtin .len => true
    | .builtin .cap => true
    | .builtin .min => true
    | .builtin .max => true
    | _ => false
  | _ => false

section
variable {P : Program} {ops : Array Oper} {S : World → Prop} {Q : Exit → Act → World → Prop}

/-- An operation that acts: it hands back a value and leaves a world. -/
def actv (P : Program) (o : Oper) (a : Act) (w : World) (R : Value → World → Prop) : Prop :=
  match (execOp a.eval o).run P w with
  | .ok (.value v) w' => R v w'
  | .ok .skip w' => R undef w'
  | .ok (.enter f args) w' => Calls P f args w' (fun e w'' => ∃ v, e = .returned v ∧ R v w'')
  | _ => False
theorem actv_mono {o : Oper} {a : Act} {w : World} {R R' : Value → World → Prop} (h : actv P o a w R) (hr : ∀ v w', R v w' → R' v w') : actv P o a w R' := by
  unfold actv at *
  generalize (execOp a.eval o).run P w = r at *
  cases r with
  | ok n w' =>
    cases n <;> simp only at h ⊢ <;> first | exact hr _ _ h | exact h.mono (fun e w'' ⟨v, he, hv⟩ => ⟨v, he, hr _ _ hv⟩)
  | halt x w' => exact h
theorem actv_some {o : Oper} {a : Act} {w : World} {R : Value → World → Prop} (h : actv P o a w R) : ∃ v w', R v w' := by
  unfold actv at h
  generalize (execOp a.eval o).run P w = r at *
  cases r with
  | ok n w' =>
    cases n <;> simp only at h <;> first | exact ⟨_, _, h⟩ | (obtain ⟨e, w'', fr, ⟨v, _, hv⟩, _⟩ := h []; exact ⟨_, _, hv⟩)
  | halt x w' => exact h.elim
theorem actv_wp {o : Oper} {a : Act} {w : World} {K : Act → World → Prop} (h : actv P o a w (fun v w' => K (a.put o.dst v) w')) : o.wp P a w K Q := by
  unfold actv at h
  unfold Oper.wp
  generalize (execOp a.eval o).run P w = r at *
  cases r with
  | ok n w' =>
    cases n <;> simp only at h <;> simp only [Oper.upon] <;> first | exact h | exact h.mono (fun e w'' ⟨v, he, hv⟩ => by subst he; exact hv)
  | halt x w' => exact h.elim
theorem actv_same {o : Oper} {a a' : Act} {w : World} {R : Value → World → Prop} (he : execOp a'.eval o = execOp a.eval o) (h : actv P o a w R) : actv P o a' w R := by
  unfold actv at *
  rw [he]
  exact h

/-- One step of the walk in the text's order. -/
def stepL (P : Program) (ops : Array Oper) (S : World → Prop) (o : Oper) (a : Act) (w : World) (R : Act → World → Prop) : Prop :=
  if Region.wanted o (yielded ops a.tmps) = true then
    (if plain o.op = true then ∃ v, (∀ w', S w' → (execOp a.eval o).run P w' = .ok (.value v) w') ∧ R (a.put o.dst v) w else actv P o a w (fun v w' => S w' ∧ R (a.put o.dst v) w'))
  else R (a.put o.dst undef) w
/-- The walk, by numbers. -/
def wpL (P : Program) (ops : Array Oper) (S : World → Prop) (Q : Exit → Act → World → Prop) : List Nat → Act → World → Prop
  | [], a, w => Q .normal a w
  | i :: r, a, w => ∃ o, ops[i]? = some o ∧ stepL P ops S o a w (wpL P ops S Q r)
/-- The walk, by operations. -/
def wpLex (P : Program) (ops : Array Oper) (S : World → Prop) (Q : Exit → Act → World → Prop) : List Oper → Act → World → Prop
  | [], a, w => Q .normal a w
  | o :: r, a, w => stepL P ops S o a w (wpLex P ops S Q r)

theorem stepL_mono {o : Oper} {a : Act} {w : World} {R R' : Act → World → Prop} (h : stepL P ops S o a w R) (hr : ∀ a w, R a w → R' a w) : stepL P ops S o a w R' := by
  unfold stepL at *
  split
  · rename_i hw
    rw [if_pos hw] at h
    split
    · rename_i hp
      rw [if_pos hp] at h
      obtain ⟨v, h1, h2⟩ := h
      exact ⟨v, h1, hr _ _ h2⟩
    · rename_i hp
      rw [if_neg hp] at h
      exact actv_mono h (fun v w' h => ⟨h.1, hr _ _ h.2⟩)
  · rename_i hw
    rw [if_neg hw] at h
    exact hr _ _ h
theorem stepL_some {o : Oper} {a : Act} {w : World} {R : Act → World → Prop} (hS : S w) (h : stepL P ops S o a w R) : ∃ v w', S w' ∧ R (a.put o.dst v) w' := by
  unfold stepL at h
  split at h
  · split at h
    · obtain ⟨v, _, h2⟩ := h
      exact ⟨v, w, hS, h2⟩
    · obtain ⟨v, w', h1, h2⟩ := actv_some h
      exact ⟨v, w', h1, h2⟩
  · exact ⟨_, w, hS, h⟩

/-- A plain operation further on yields the same value now. -/
theorem peek (hs : Region.noSelect ops = true) {j : Nat} {oj : Oper} (hj : ops[j]? = some oj) (hpl : plain oj.op = true) : ∀ (r : List Nat) (a : Act) (w : World), j ∈ r →
    (∀ k ok, k ∈ r → k < j → ops[k]? = some ok → ok.apart ops oj = true) → r.Pairwise (· < ·) → S w → wpL P ops S Q r a w → ∃ v, YieldsIf P ops S oj v a
  | i :: r, a, w, hm, hap, hsort, hS, h => by
    obtain ⟨o, ho, h⟩ := h
    rcases List.mem_cons.1 hm with rfl | hm
    · rw [hj] at ho
      injection ho with ho
      subst ho
      unfold stepL at h
      by_cases hw : Region.wanted oj (yielded ops a.tmps) = true
      · rw [if_pos hw, if_pos hpl] at h
        obtain ⟨v, h1, _⟩ := h
        exact ⟨v, .inl ⟨hw, h1⟩⟩
      · exact ⟨undef, .inr ⟨by simpa using hw, rfl⟩⟩
    · have hlt : i < j := (List.pairwise_cons.1 hsort).1 j hm
      obtain ⟨v, w', hS', hR⟩ := stepL_some hS h
      obtain ⟨u, hu⟩ := peek hs hj hpl r _ w' hm (fun k ok hk => hap k ok (by simp [hk])) (List.pairwise_cons.1 hsort).2 hS' hR
      obtain ⟨h1, h2, h3⟩ := Oper.apart_spec (hap i o (by simp) hlt ho)
      exact ⟨u, hu.of_same (execOp_put oj (fun cs b => Region.noSelect_spec hs j oj cs b hj) a o.dst v h1).symm (wanted_put oj a o.dst v h1).symm⟩

/-- It may be taken first. -/
theorem pull_plain (hs : Region.noSelect ops = true) {j : Nat} {oj : Oper} {v : Value} (hj : ops[j]? = some oj) (hpl : plain oj.op = true) : ∀ (r : List Nat) (a : Act) (w : World), j ∈ r →
    (∀ k ok, k ∈ r → k < j → ops[k]? = some ok → ok.apart ops oj = true) → r.Pairwise (· < ·) → S w → YieldsIf P ops S oj v a → wpL P ops S Q r a w → wpL P ops S Q (r.erase j) (a.put oj.dst v) w
  | i :: r, a, w, hm, hap, hsort, hS, hy, h => by
    obtain ⟨o, ho, h⟩ := h
    by_cases hij : i = j
    · subst hij
      rw [hj] at ho
      injection ho with ho
      subst ho
      rw [List.erase_cons_head]
      unfold stepL at h
      rcases hy with ⟨hw, hv⟩ | ⟨hw, rfl⟩
      · rw [if_pos hw, if_pos hpl] at h
        obtain ⟨u, h1, h2⟩ := h
        have e := (hv w hS).symm.trans (h1 w hS)
        simp only [Result.ok.injEq, Next.value.injEq, and_true] at e
        subst e
        exact h2
      · rw [if_neg (by rw [hw]; simp)] at h
        exact h
    · have hm' : j ∈ r := by rcases List.mem_cons.1 hm with e | e; exact absurd e.symm hij; exact e
      have hlt : i < j := (List.pairwise_cons.1 hsort).1 j hm'
      rw [List.erase_cons_tail (by simpa using hij)]
      obtain ⟨h1, h2, h3⟩ := Oper.apart_spec (hap i o (by simp) hlt ho)
      have keep : ∀ u, YieldsIf P ops S oj v (a.put o.dst u) := fun u => hy.of_same (execOp_put oj (fun cs b => Region.noSelect_spec hs j oj cs b hj) a o.dst u h1) (wanted_put oj a o.dst u h1)
      refine ⟨o, ho, ?_⟩
      have rec_ : ∀ u w', S w' → wpL P ops S Q r (a.put o.dst u) w' → wpL P ops S Q (r.erase j) ((a.put oj.dst v).put o.dst u) w' := fun u w' hS' hh => by
        rw [Act.put_comm a v u (fun d hd he => h2 d he hd)]
        exact pull_plain hs hj hpl r _ w' hm' (fun k ok hk => hap k ok (by simp [hk])) (List.pairwise_cons.1 hsort).2 hS' (keep u) hh
      unfold stepL at h ⊢
      rw [wanted_put o a oj.dst v h3]
      split
      · rename_i hw
        rw [if_pos hw] at h
        split
        · rename_i hp
          rw [if_pos hp] at h
          obtain ⟨u, g1, g2⟩ := h
          exact ⟨u, fun w' hw' => by rw [execOp_put o (fun cs b => Region.noSelect_spec hs i o cs b ho) a oj.dst v h3]; exact g1 w' hw', rec_ u w hS g2⟩
        · rename_i hp
          rw [if_neg hp] at h
          exact actv_same (execOp_put o (fun cs b => Region.noSelect_spec hs i o cs b ho) a oj.dst v h3) (actv_mono h (fun u w' hh => ⟨hh.1, rec_ u w' hh.1 hh.2⟩))
      · rename_i hw
        rw [if_neg hw] at h
        exact rec_ undef w hS h

/-- One that acts may be taken first where all ahead of it are plain. -/
theorem pull_act (hs : Region.noSelect ops = true) {j : Nat} {oj : Oper} (hj : ops[j]? = some oj) (hpl : ¬ plain oj.op = true) : ∀ (r : List Nat) (a : Act) (w : World), j ∈ r →
    (∀ k ok, k ∈ r → k < j → ops[k]? = some ok → plain ok.op = true ∧ ok.apart ops oj = true) → r.Pairwise (· < ·) → S w → wpL P ops S Q r a w →
    if Region.wanted oj (yielded ops a.tmps) = true then actv P oj a w (fun v w' => S w' ∧ wpL P ops S Q (r.erase j) (a.put oj.dst v) w') else wpL P ops S Q (r.erase j) (a.put oj.dst undef) w
  | i :: r, a, w, hm, hap, hsort, hS, h => by
    obtain ⟨o, ho, h⟩ := h
    by_cases hij : i = j
    · subst hij
      rw [hj] at ho
      injection ho with ho
      subst ho
      rw [List.erase_cons_head]
      unfold stepL at h
      split
      · rename_i hw
        rwa [if_pos hw, if_neg hpl] at h
      · rename_i hw
        rwa [if_neg hw] at h
    · have hm' : j ∈ r := by rcases List.mem_cons.1 hm with e | e; exact absurd e.symm hij; exact e
      have hlt : i < j := (List.pairwise_cons.1 hsort).1 j hm'
      rw [List.erase_cons_tail (by simpa using hij)]
      obtain ⟨hp, hapart⟩ := hap i o (by simp) hlt ho
      obtain ⟨h1, h2, h3⟩ := Oper.apart_spec hapart
      have ih := fun u hh => pull_act hs hj hpl r (a.put o.dst u) w hm' (fun k ok hk => hap k ok (by simp [hk])) (List.pairwise_cons.1 hsort).2 hS hh
      have back : ∀ u v w', (Region.wanted o (yielded ops a.tmps) = true → ∀ w', S w' → (execOp a.eval o).run P w' = .ok (.value u) w') → (¬ Region.wanted o (yielded ops a.tmps) = true → u = undef) → wpL P ops S Q (r.erase j) ((a.put o.dst u).put oj.dst v) w' → wpL P ops S Q (i :: r.erase j) (a.put oj.dst v) w' := fun u v w' g1 g2 hh => by
        refine ⟨o, ho, ?_⟩
        have e : (a.put o.dst u).put oj.dst v = (a.put oj.dst v).put o.dst u := Act.put_comm a u v h2
        rw [e] at hh
        unfold stepL
        rw [wanted_put o a oj.dst v h3]
        split
        · rename_i hw
          exact ⟨u, fun w'' hw'' => by rw [execOp_put o (fun cs b => Region.noSelect_spec hs i o cs b ho) a oj.dst v h3]; exact g1 hw w'' hw'', hh⟩
        · rename_i hw
          obtain rfl := g2 hw
          exact hh
      have main : ∀ u, (Region.wanted o (yielded ops a.tmps) = true → ∀ w', S w' → (execOp a.eval o).run P w' = .ok (.value u) w') → (¬ Region.wanted o (yielded ops a.tmps) = true → u = undef) → wpL P ops S Q r (a.put o.dst u) w →
          if Region.wanted oj (yielded ops a.tmps) = true then actv P oj a w (fun v w' => S w' ∧ wpL P ops S Q (i :: r.erase j) (a.put oj.dst v) w') else wpL P ops S Q (i :: r.erase j) (a.put oj.dst undef) w := fun u g1 g2 hh => by
        have h4 := ih u hh
        rw [wanted_put oj a o.dst u h1] at h4
        split
        · rename_i hw
          rw [if_pos hw] at h4
          exact actv_mono (actv_same (execOp_put oj (fun cs b => Region.noSelect_spec hs j oj cs b hj) a o.dst u h1).symm h4) (fun v w' g => ⟨g.1, back u v w' g1 g2 g.2⟩)
        · rename_i hw
          rw [if_neg hw] at h4
          exact back u undef w g1 g2 h4
      unfold stepL at h
      split at h
      · rename_i hw
        obtain ⟨u, g1, g2⟩ := h
        exact main u (fun _ => g1) (fun hn => absurd hw hn) g2
      · rename_i hw
        exact main undef (fun h => absurd h hw) (fun _ => rfl) h

/-- i waits for k, by way of others too. -/
inductive Waits (ops : Array Oper) : Nat → Nat → Prop
  | on {i : Nat} {o : Oper} {e : Edge} (ho : ops[i]? = some o) (he : e ∈ o.after) (hb : Region.binds .any e = true) : Waits ops i e.on
  | by_ {i k : Nat} {o : Oper} {e : Edge} (ho : ops[i]? = some o) (he : e ∈ o.after) (hb : Region.binds .any e = true) (h : Waits ops e.on k) : Waits ops i k
/-- For whom an operation waits, as bits of a number; those of the operations ahead are known. -/
def maskOf (acc : List Nat) (o : Oper) : Nat := o.after.toList.foldl (fun m e => if Region.binds .any e = true then m ||| (2 ^ e.on) ||| acc.getD e.on 0 else m) 0
def masks : List Oper → List Nat → List Nat
  | [], acc => acc
  | o :: l, acc => masks l (acc ++ [maskOf acc o])
theorem mask_fold {acc : List Nat} {k : Nat} : ∀ (l : List Edge) (m : Nat), (l.foldl (fun m e => if Region.binds .any e = true then m ||| (2 ^ e.on) ||| acc.getD e.on 0 else m) m).testBit k = true →
    m.testBit k = true ∨ ∃ e ∈ l, Region.binds .any e = true ∧ (e.on = k ∨ (acc.getD e.on 0).testBit k = true)
  | [], m, h => .inl h
  | e :: l, m, h => by
    rw [List.foldl_cons] at h
    rcases mask_fold l _ h with h1 | ⟨e', he', hb, h1⟩
    · by_cases hb : Region.binds .any e = true
      · rw [if_pos hb, Nat.testBit_or, Nat.testBit_or, Nat.testBit_two_pow, Bool.or_eq_true, Bool.or_eq_true, decide_eq_true_eq] at h1
        rcases h1 with (h1 | h1) | h1
        · exact .inl h1
        · exact .inr ⟨e, by simp, hb, .inl h1⟩
        · exact .inr ⟨e, by simp, hb, .inr h1⟩
      · rw [if_neg hb] at h1
        exact .inl h1
    · exact .inr ⟨e', by simp [he'], hb, h1⟩
theorem masks_right : ∀ (l : List Oper) (acc : List Nat), (∀ j, l[j]? = if j < l.length then ops[acc.length + j]? else none) → (∀ i k, (acc.getD i 0).testBit k = true → Waits ops i k) →
    ∀ i k, ((masks l acc).getD i 0).testBit k = true → Waits ops i k
  | [], _, _, h => h
  | o :: l, acc, hl, h => by
    have h0 := hl 0
    simp at h0
    refine masks_right l _ (fun j => ?_) (fun i k hik => ?_)
    · have h1 := hl (j + 1)
      simp only [List.getElem?_cons_succ, List.length_cons, Nat.add_lt_add_iff_right] at h1
      rw [h1, List.length_append]
      split
      · congr 1; simp only [List.length_cons, List.length_nil]; omega
      · rfl
    · rcases Nat.lt_trichotomy i acc.length with h1 | h1 | h1
      · rw [List.getD_eq_getElem?_getD, List.getElem?_append_left h1, ← List.getD_eq_getElem?_getD] at hik
        exact h i k hik
      · subst h1
        have e : (acc ++ [maskOf acc o]).getD acc.length 0 = maskOf acc o := by simp [List.getD]
        rw [e] at hik
        rcases mask_fold _ _ hik with h2 | ⟨e, he, hb, h2⟩
        · simp at h2
        · have he' : e ∈ o.after := by simpa using he
          rcases h2 with h2 | h2
          · rw [← h2]; exact .on h0.symm he' hb
          · exact .by_ h0.symm he' hb (h _ _ h2)
      · have e : (acc ++ [maskOf acc o]).getD i 0 = 0 := by
          rw [List.getD_eq_getElem?_getD, List.getElem?_eq_none (by simp; omega)]; rfl
        rw [e] at hik
        simp at hik
def lexOK (ops : Array Oper) : Bool :=
  let ms := masks ops.toList []
  Region.noSelect ops && (List.range ops.size).all fun i => match ops[i]? with
    | none => false
    | some o => (o.after.all fun e => !Region.binds .any e || decide (e.on < i)) && (List.range i).all fun k => match ops[k]? with
      | none => false
      | some ok => ((o.after.any fun e => Region.binds .any e && e.on == k) || ok.apart ops o) && (plain o.op || plain ok.op || (ms.getD i 0).testBit k)
structure Ok (ops : Array Oper) : Prop where
  sel : Region.noSelect ops = true
  up : ∀ i o, ops[i]? = some o → ∀ e ∈ o.after, Region.binds .any e = true → e.on < i
  pair : ∀ i o k ok, ops[i]? = some o → k < i → ops[k]? = some ok → (∃ e ∈ o.after, Region.binds .any e = true ∧ e.on = k) ∨ ok.apart ops o = true
  act : ∀ i o k ok, ops[i]? = some o → k < i → ops[k]? = some ok → plain o.op = true ∨ plain ok.op = true ∨ Waits ops i k
theorem ok_of (h : lexOK ops = true) : Ok ops := by
  have hw : ∀ i k, ((masks ops.toList []).getD i 0).testBit k = true → Waits ops i k := masks_right ops.toList [] (fun j => by
    by_cases hj : j < ops.size
    · simp [hj]
    · simp [hj]) (fun i k h => by simp at h)
  unfold lexOK at h
  simp only [Bool.and_eq_true, List.all_eq_true, List.mem_range] at h
  obtain ⟨h0, h1⟩ := h
  have at_ : ∀ i o, ops[i]? = some o → i < ops.size := fun i o ho => (Array.getElem?_eq_some_iff.1 ho).1
  have each : ∀ i o, ops[i]? = some o → (∀ e ∈ o.after, Region.binds .any e = true → e.on < i) ∧ ∀ k, k < i → ∀ ok, ops[k]? = some ok → ((∃ e ∈ o.after, Region.binds .any e = true ∧ e.on = k) ∨ ok.apart ops o = true) ∧ (plain o.op = true ∨ plain ok.op = true ∨ Waits ops i k) := fun i o ho => by
    have h2 := h1 i (at_ i o ho)
    rw [ho] at h2
    simp only [Bool.and_eq_true, List.all_eq_true, List.mem_range] at h2
    refine ⟨fun e he hb => ?_, fun k hk ok hok => ?_⟩
    · have h3 := Array.all_eq_true_iff_forall_mem.1 h2.1 e he
      simp only [hb, Bool.not_true, Bool.false_or, decide_eq_true_eq] at h3
      exact h3
    · have h3 := h2.2 k hk
      rw [hok] at h3
      simp only [Bool.and_eq_true, Bool.or_eq_true] at h3
      refine ⟨?_, ?_⟩
      · rcases h3.1 with h4 | h4
        · left
          rw [Array.any_eq_true] at h4
          obtain ⟨n, hn, h5⟩ := h4
          simp only [Bool.and_eq_true, beq_iff_eq] at h5
          exact ⟨_, Array.getElem_mem hn, h5.1, h5.2⟩
        · exact .inr h4
      · rcases h3.2 with (h4 | h4) | h4
        · exact .inl h4
        · exact .inr (.inl h4)
        · exact .inr (.inr (hw i k h4))
  exact ⟨h0, fun i o ho => (each i o ho).1, fun i o k ok ho hk hok => ((each i o ho).2 k hk ok hok).1, fun i o k ok ho hk hok => ((each i o ho).2 k hk ok hok).2⟩

/-- What is listed has all listed that it waits for. -/
def Closed (ops : Array Oper) (listed : Array Bool) : Prop := ∀ i o, ops[i]? = some o → listed.getD i false = true → ∀ e ∈ o.after, Region.binds .any e = true → listed.getD e.on false = true
theorem waits_listed {listed : Array Bool} (hc : Closed ops listed) {i k : Nat} (h : Waits ops i k) : (∀ o, ops[i]? = some o → ∀ e ∈ o.after, Region.binds .any e = true → listed.getD e.on false = true) → listed.getD k false = true := by
  induction h with
  | on ho he hb => intro hi; exact hi _ ho _ he hb
  | by_ ho he hb h ih => intro hi; exact ih (fun o' ho' => hc _ o' ho' (hi _ ho _ he hb))

theorem getD_both {listed : Array Bool} {i : Nat} (hi : i < listed.size) (d d' : Bool) : listed.getD i d = listed.getD i d' := by simp [hi]

/-- From the walk in the text's order to any order. -/
theorem any_of_lex (hk : Ok ops) : ∀ (fuel : Nat) (r : List Nat) (listed : Array Bool) (a : Act) (w : World), r.length ≤ fuel → r.Pairwise (· < ·) → listed.size = ops.size → (∀ j, listed.getD j true = false ↔ j ∈ r) → Closed ops listed → S w →
    wpL P ops S Q r a w → wpAnyH P .any ops Q S fuel listed a w := by
  intro fuel
  induction fuel with
  | zero =>
    intro r listed a w hl _ _ hr _ _ h
    have : r = [] := List.eq_nil_of_length_eq_zero (by omega)
    subst this
    refine ⟨?_, h⟩
    refine List.eq_nil_iff_forall_not_mem.2 fun j hj => ?_
    have := (hr j).1 (mem_ready.1 hj).1
    cases this
  | succ fuel ih =>
    intro r listed a w hl hsort hsz hr hc hS h
    have inb : ∀ j, j ∈ r → j < ops.size := fun j hj => by
      have h1 := (hr j).2 hj
      rcases Nat.lt_or_ge j listed.size with h2 | h2
      · omega
      · simp [Array.getElem?_eq_none h2] at h1
    refine ⟨fun h0 => ?_, fun i hi => ?_⟩
    · cases r with
      | nil => exact h
      | cons i r =>
        have hir : i < ops.size := inb i (by simp)
        have hoi : ops[i]? = some ops[i] := Array.getElem?_eq_getElem hir
        have : i ∈ Region.ready .any ops listed := mem_ready.2 ⟨(hr i).2 (by simp), _, hoi, fun e he hb => by
          have hlt := hk.up i _ hoi e he hb
          cases hle : listed.getD e.on true with
          | false =>
            have hm := (hr e.on).1 hle
            rcases List.mem_cons.1 hm with h1 | h1
            · omega
            · have := (List.pairwise_cons.1 hsort).1 _ h1; omega
          | true => rw [getD_both (by omega) false true]; exact hle⟩
        rw [h0] at this
        cases this
    · obtain ⟨hun, o, ho, hall⟩ := mem_ready.1 hi
      have him : i ∈ r := (hr i).1 hun
      have his : i < ops.size := inb i him
      have unl : ∀ k, k ∈ r → listed.getD k false = false := fun k hk' => by
        rw [getD_both (by have := inb k hk'; omega) false true]; exact (hr k).2 hk'
      have hap : ∀ k ok, k ∈ r → k < i → ops[k]? = some ok → ok.apart ops o = true := fun k ok hkr hki hok => by
        rcases hk.pair i o k ok ho hki hok with ⟨e, he, hb, hon⟩ | h1
        · have h2 := hall e he hb
          rw [hon, unl k hkr] at h2
          cases h2
        · exact h1
      have hr' : ∀ j, (listed.setIfInBounds i true).getD j true = false ↔ j ∈ r.erase i := fun j => by
        have hnd : r.Nodup := hsort.imp (fun h => Nat.ne_of_lt h)
        rw [hnd.mem_erase_iff]
        by_cases hji : i = j
        · subst hji
          have : (listed.setIfInBounds i true).getD i true = true := by simp [hsz, his]
          rw [this]
          simp
        · rw [getD_set_ne true hji, hr j]
          exact ⟨fun h => ⟨fun e => hji e.symm, h⟩, fun h => h.2⟩
      have hc' : Closed ops (listed.setIfInBounds i true) := fun k ok hok hlk e he hb => by
        by_cases hki : i = k
        · subst hki
          rw [ho] at hok
          injection hok with hok
          subst hok
          exact getD_set_true (hall e he hb)
        · rw [getD_set_ne false hki] at hlk
          exact getD_set_true (hc k ok hok hlk e he hb)
      have hlen : (r.erase i).length ≤ fuel := by rw [List.length_erase_of_mem him]; omega
      have hsort' : (r.erase i).Pairwise (· < ·) := hsort.sublist (List.erase_sublist)
      have go := fun a' w' hS' hh => ih (r.erase i) (listed.setIfInBounds i true) a' w' hlen hsort' (by simp [hsz]) hr' hc' hS' hh
      by_cases hp : plain o.op = true
      · obtain ⟨v, hy⟩ := peek hk.sel ho hp r a w him hap hsort hS h
        exact hy.wpOp ho hS ⟨hS, go _ _ hS (pull_plain hk.sel ho hp r a w him hap hsort hS hy h)⟩
      · have hpl : ∀ k ok, k ∈ r → k < i → ops[k]? = some ok → plain ok.op = true ∧ ok.apart ops o = true := fun k ok hkr hki hok => by
          refine ⟨?_, hap k ok hkr hki hok⟩
          rcases hk.act i o k ok ho hki hok with h1 | h1 | h1
          · exact absurd h1 hp
          · exact h1
          · have h2 := waits_listed hc h1 (fun o' ho' => by rw [ho] at ho'; injection ho' with ho'; subst ho'; exact hall)
            rw [unl k hkr] at h2
            cases h2
        have h1 := pull_act hk.sel ho hp r a w him hpl hsort hS h
        unfold wpOp
        simp only [ho]
        split
        · rename_i hw
          rw [if_pos hw] at h1
          exact .inl (actv_wp (actv_mono h1 (fun v w' g => ⟨g.1, go _ _ g.1 g.2⟩)))
        · rename_i hw
          rw [if_neg hw] at h1
          exact ⟨hS, go _ _ hS h1⟩

theorem lex_nums : ∀ (l : List Oper) (k : Nat) (a : Act) (w : World), (∀ j, l[j]? = if j < l.length then ops[k + j]? else none) → wpLex P ops S Q l a w → wpL P ops S Q (List.range' k l.length) a w
  | [], _, _, _, _, h => h
  | o :: l, k, a, w, hl, h => by
    rw [List.length_cons, List.range'_succ]
    have h0 := hl 0
    simp at h0
    refine ⟨o, h0.symm, stepL_mono h (fun a' w' hh => lex_nums l (k + 1) a' w' (fun j => ?_) hh)⟩
    have h1 := hl (j + 1)
    simp only [List.getElem?_cons_succ, List.length_cons, Nat.add_lt_add_iff_right] at h1
    rw [h1]
    split
    · congr 1; omega
    · rfl

/-- **The rule.** -/
theorem wp_region_lex {id : Nat} {a : Act} {w : World} {l : List Oper} (S : World → Prop) (hm : P.follows .mixedOrders = true) (hB : lexOK l.toArray = true) (hS : S w.drew) (h : wpLex P l.toArray S Q l a w.drew) : (Code.region id l.toArray true).wp P Q a w := by
  refine wp_region_held (S := S) hm (any_of_lex (ok_of hB) _ (List.range' 0 l.length) _ a _ (by simp) List.pairwise_lt_range' (by simp) (fun j => ?_) (fun i o ho hi => ?_) hS (lex_nums l 0 a _ (fun j => ?_) h))
  · simp only [List.mem_range'_1]
    by_cases hj : j < l.length
    · simp [hj]
    · simp [hj]
  · by_cases hj : i < l.length
    · simp [hj] at hi
    · simp [hj] at hi
  · by_cases hj : j < l.length
    · simp [hj]
    · simp [hj]

/-! ### The steps -/
theorem run_val {α : Type} (s : Sem α) (f : α → Value) (w : World) {n : Next} {w' : World} (h : (do let x ← s; pure (Next.value (f x)) : Sem Next).run P w = .ok n w') : ∃ u, n = .value u := by
  simp only [Sem.run_bind, Sem.run_pure] at h
  generalize s.run P w = r at h
  cases r with
  | ok v w1 => simp only [Result.andThen_ok, Result.ok.injEq] at h; exact ⟨_, h.1.symm⟩
  | halt x w1 => simp [Result.andThen] at h
theorem run_val' {α : Type} (s : Sem α) (g : α → Sem Next) (hg : ∀ x w n w', (g x).run P w = .ok n w' → ∃ u, n = .value u) (w : World) {n : Next} {w' : World} (h : (s >>= g).run P w = .ok n w') : ∃ u, n = .value u := by
  simp only [Sem.run_bind] at h
  generalize s.run P w = r at h
  cases r with
  | ok v w1 => exact hg v w1 n w' h
  | halt x w1 => simp [Result.andThen] at h
theorem pure_val {u : Value} (w : World) {n : Next} {w' : World} (h : (pure (Next.value u) : Sem Next).run P w = .ok n w') : ∃ u, n = .value u := by
  simp only [Sem.run_pure, Result.ok.injEq] at h
  exact ⟨_, h.1.symm⟩
theorem plain_value {o : Oper} (ho : plain o.op = true) (ρ : Operand → Value) (w : World) {n : Next} {w' : World} (h : (execOp ρ o).run P w = .ok n w') : ∃ u, n = .value u := by
  obtain ⟨dst, op, ty, pos, after, guard⟩ := o
  cases op <;> simp only [plain, Bool.false_eq_true] at ho <;> try simp only [execOp] at h
  case call c =>
    obtain ⟨callee, args, argTypes⟩ := c
    cases callee with
    | builtin b =>
      cases b <;> simp only [Bool.false_eq_true] at ho
      all_goals
        simp only [resolve, invoke, Sem.run_bind, Sem.run_pure, Result.andThen_ok] at h
        exact run_val _ id w h
    | _ => simp only [Bool.false_eq_true] at ho
  case nilCheck x =>
    generalize ρ x = y at h
    cases y with
    | pointer a => cases a with
      | none => simp [runtimePanic] at h
      | some a => exact pure_val w h
    | func f first cap =>
      cases f with
      | method name =>
        simp only at h
        split at h
        · simp [runtimePanic] at h
        · exact run_val' _ _ (fun x w n w' hx => by
            refine run_val' _ _ (fun y w n w' hy => ?_) w hx
            split at hy
            · exact run_val' _ _ (fun x w n w' hx => pure_val w hx) w hy
            · exact pure_val w hy) w h
        · exact pure_val w h
      | _ => exact pure_val w h
    | _ => first | exact pure_val w h | simp [runtimePanic] at h
  all_goals first
    | exact pure_val w h
    | exact run_val' _ _ (fun x w n w' hx => pure_val w hx) w h
theorem lex_plain {o : Oper} {rest : List Oper} {a : Act} {w : World} (ho : plain o.op = true) (h : wpQuiet P ops S (fun a' => wpLex P ops S Q rest a' w) [o] a) : wpLex P ops S Q (o :: rest) a w := by
  unfold wpLex stepL
  unfold wpQuiet at h
  split
  · rename_i hw
    rw [if_pos hw] at h
    obtain ⟨v, h1, h2⟩ := h
    refine ⟨v, fun w' hw' => ?_, h2⟩
    have h3 := h1 w' hw'
    unfold Oper.quietAt at h3
    generalize hr : (execOp a.eval o).run P w' = r at h3
    cases r with
    | ok n w1 =>
      obtain ⟨u, rfl⟩ := plain_value ho a.eval w' hr
      obtain ⟨rfl, rfl⟩ := h3
      rfl
    | halt x w1 => exact h3.elim
  · rename_i hw
    rw [if_neg hw] at h
    exact h
theorem lex_skip {o : Oper} {rest : List Oper} {a : Act} {w : World} (hw : Region.wanted o (yielded ops a.tmps) = false) (h : wpLex P ops S Q rest (a.put o.dst undef) w) : wpLex P ops S Q (o :: rest) a w := by
  unfold wpLex stepL
  rw [if_neg (by rw [hw]; simp)]
  exact h
/-- A call of a Go function, by its contract. -/
theorem lex_call {o : Oper} {rest : List Oper} {a : Act} {w : World} {f : FuncId} {as : List Operand} {ts : Array TypeId} {args : List Value} {R : Ending → World → Prop} (hc : Calls P f args.toArray w R) (hw : Region.wanted o (yielded ops a.tmps) = true) (ho : o.op = .call { callee := .value (.func f), args := as.toArray, argTypes := ts }) (hargs : as.map a.eval = args)
    (hent : ∀ w, (callFunc f args.toArray).run P w = .ok (.enter f args.toArray) w)
    (h : ∀ e w', R e w' → ∃ v, e = .returned v ∧ S w' ∧ wpLex P ops S Q rest (a.put o.dst v) w') : wpLex P ops S Q (o :: rest) a w := by
  unfold wpLex stepL
  rw [if_pos hw, if_neg (by rw [ho]; simp [plain])]
  have he : (execOp a.eval o).run P w = .ok (.enter f args.toArray) w := by
    simp only [execOp, ho, resolve, Sem.run_bind, List.map_toArray, hargs, Act.eval, Deferred.ofValue, Sem.run_pure, Result.andThen_ok, Array.empty_append, invoke, Array.append_empty]
    exact hent w
  unfold actv
  rw [he]
  exact hc.mono h
/-- Any other operation that acts. -/
theorem lex_act {o : Oper} {rest : List Oper} {a : Act} {w w' : World} {v : Value} (hp : plain o.op = false) (hw : Region.wanted o (yielded ops a.tmps) = true) (hr : (execOp a.eval o).run P w = .ok (.value v) w') (hS : S w') (h : wpLex P ops S Q rest (a.put o.dst v) w') : wpLex P ops S Q (o :: rest) a w := by
  unfold wpLex stepL
  rw [if_pos hw, if_neg (by rw [hp]; simp)]
  unfold actv
  rw [hr]
  exact ⟨hS, h⟩
theorem lex_act0 {o : Oper} {rest : List Oper} {a : Act} {w w' : World} (hp : plain o.op = false) (hw : Region.wanted o (yielded ops a.tmps) = true) (hr : (execOp a.eval o).run P w = .ok .skip w') (hS : S w') (h : wpLex P ops S Q rest (a.put o.dst undef) w') : wpLex P ops S Q (o :: rest) a w := by
  unfold wpLex stepL
  rw [if_pos hw, if_neg (by rw [hp]; simp)]
  unfold actv
  rw [hr]
  exact ⟨hS, h⟩
/-- A slice that is laid. -/
theorem lex_build {o : Oper} {rest : List Oper} {a : Act} {w w' : World} {t : TypeId} {n : Nat} {parts : Array (Nat × Operand)} {ps : Array (Nat × Value)} {v : Value} (ho : o.op = .buildSlice t n parts) (hp : parts.map (fun (i, x) => (i, a.eval x)) = ps)
    (hr : (Instr.buildSlice t n ps).run P w = .ok v w') (hw : Region.wanted o (yielded ops a.tmps) = true) (hS : S w') (h : wpLex P ops S Q rest (a.put o.dst v) w') : wpLex P ops S Q (o :: rest) a w := by
  unfold wpLex stepL
  rw [if_pos hw, if_neg (by rw [ho]; simp [plain])]
  have he : (execOp a.eval o).run P w = .ok (.value v) w' := by
    simp only [execOp, ho, hp, Sem.run_bind, Sem.run_pure, Result.andThen_ok, hr]
  unfold actv
  rw [he]
  exact ⟨hS, h⟩
/-- The same, what follows behind a letter. -/
theorem lex_step {o : Oper} {rest : List Oper} {a : Act} {w : World} (ho : plain o.op = true) (h : ∀ K : Act → Prop, Shut (∀ a, wpLex P ops S Q rest a w → K a) → wpQuiet P ops S K [o] a) : wpLex P ops S Q (o :: rest) a w :=
  lex_plain ho (h _ (fun _ h => h))
theorem lex_on {K : Act → Prop} {rest : List Oper} {a : Act} {w : World} (hK : Shut (∀ a, wpLex P ops S Q rest a w → K a)) (h : wpLex P ops S Q rest a w) : wpQuiet P ops S K [] a := wpQuiet_nil (hK a h)
theorem lex_nil {a : Act} {w : World} (h : Q .normal a w) : wpLex P ops S Q [] a w := h
end
attribute [irreducible] wpLex
end Go.Proofs.Ytdhlbcbgbmgcjaa.Mix
