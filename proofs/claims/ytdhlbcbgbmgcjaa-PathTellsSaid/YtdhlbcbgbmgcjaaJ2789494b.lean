/- Lemmas that the proof stands on, in build order: MixZ. -/
import Derived.Test.YtdhlbcbgbmgcjaaJ26b1b13a
/- A region that draws its order and ends in an operation that waits for all others (x[i] = append(x[i], v)): behind that one nothing has to hold for the loads any more. Over any program; outside and inside a round. -/
namespace Go.Proofs.Ytdhlbcbgbmgcjaa.Mix
open Go.RowKit

section
variable {P : Program} {ops : Array Oper} {S : World → Prop} {Q : Exit → Act → World → Prop}
/-- All but the last are done: the last. -/
def LastZ (P : Program) (ops : Array Oper) (Q : Exit → Act → World → Prop) (z : Nat) (e : Exit) (a : Act) (w : World) : Prop := e = .normal ∧ wpOp P ops Q z (fun a w => Q .normal a w) a w
theorem any_of_lexZ (hk : Ok ops) {z : Nat} {oz : Oper} (hz : ops[z]? = some oz) (hlast : z + 1 = ops.size) (hwt : ∀ k, k < z → Waits ops z k) : ∀ (fuel : Nat) (r : List Nat) (listed : Array Bool) (a : Act) (w : World), r.length + 1 ≤ fuel → r.Pairwise (· < ·) → listed.size = ops.size →
    (∀ j, listed.getD j true = false ↔ j ∈ r ∨ j = z) → (∀ j ∈ r, j < z) → Closed ops listed → S w → wpL P ops S (LastZ P ops Q z) r a w → wpAny P .any ops Q fuel listed a w := by
  intro fuel
  induction fuel with
  | zero => intro r listed a w hl; omega
  | succ fuel ih =>
    intro r listed a w hl hsort hsz hr hlz hc hS h
    have unl : ∀ k, k ∈ r → listed.getD k false = false := fun k hk' => by
      rw [getD_both (by have := hlz k hk'; omega) false true]; exact (hr k).2 (.inl hk')
    refine ⟨fun h0 => ?_, fun i hi => ?_⟩
    · exfalso
      cases r with
      | nil =>
        have : z ∈ Region.ready .any ops listed := mem_ready.2 ⟨(hr z).2 (.inr rfl), oz, hz, fun e he hb => by
          have hlt := hk.up z _ hz e he hb
          cases hle : listed.getD e.on true with
          | false =>
            rcases (hr e.on).1 hle with h1 | h1
            · cases h1
            · omega
          | true => rw [getD_both (by omega) false true]; exact hle⟩
        rw [h0] at this
        cases this
      | cons i r =>
        have hir : i < ops.size := by have := hlz i (by simp); omega
        have hoi : ops[i]? = some ops[i] := Array.getElem?_eq_getElem hir
        have : i ∈ Region.ready .any ops listed := mem_ready.2 ⟨(hr i).2 (by simp), _, hoi, fun e he hb => by
          have hlt := hk.up i _ hoi e he hb
          cases hle : listed.getD e.on true with
          | false =>
            have hiz := hlz i (by simp)
            rcases (hr e.on).1 hle with hm | hm
            · rcases List.mem_cons.1 hm with h1 | h1
              · omega
              · have := (List.pairwise_cons.1 hsort).1 _ h1; omega
            · omega
          | true => rw [getD_both (by omega) false true]; exact hle⟩
        rw [h0] at this
        cases this
    · obtain ⟨hun, o, ho, hall⟩ := mem_ready.1 hi
      rcases (hr i).1 hun with him | rfl
      · have hiz := hlz i him
        have his : i < ops.size := by omega
        have hap : ∀ k ok, k ∈ r → k < i → ops[k]? = some ok → ok.apart ops o = true := fun k ok hkr hki hok => by
          rcases hk.pair i o k ok ho hki hok with ⟨e, he, hb, hon⟩ | h1
          · have h2 := hall e he hb
            rw [hon, unl k hkr] at h2
            cases h2
          · exact h1
        have hr' : ∀ j, (listed.setIfInBounds i true).getD j true = false ↔ j ∈ r.erase i ∨ j = z := fun j => by
          have hnd : r.Nodup := hsort.imp (fun h => Nat.ne_of_lt h)
          rw [hnd.mem_erase_iff]
          by_cases hji : i = j
          · subst hji
            have : (listed.setIfInBounds i true).getD i true = true := by simp [hsz, his]
            rw [this]
            simp
            omega
          · rw [getD_set_ne true hji, hr j]
            exact ⟨fun h => h.imp (fun h => ⟨fun e => hji e.symm, h⟩) id, fun h => h.imp (fun h => h.2) id⟩
        have hc' : Closed ops (listed.setIfInBounds i true) := fun k ok hok hlk e he hb => by
          by_cases hki : i = k
          · subst hki
            rw [ho] at hok
            injection hok with hok
            subst hok
            exact getD_set_true (hall e he hb)
          · rw [getD_set_ne false hki] at hlk
            exact getD_set_true (hc k ok hok hlk e he hb)
        have hlen : (r.erase i).length + 1 ≤ fuel := by
          have h1 : 0 < r.length := List.length_pos_of_mem him
          rw [List.length_erase_of_mem him]; omega
        have hsort' : (r.erase i).Pairwise (· < ·) := hsort.sublist (List.erase_sublist)
        have hlz' : ∀ j ∈ r.erase i, j < z := fun j hj => hlz j (List.mem_of_mem_erase hj)
        have go := fun a' w' hS' hh => ih (r.erase i) (listed.setIfInBounds i true) a' w' hlen hsort' (by simp [hsz]) hr' hlz' hc' hS' hh
        by_cases hp : plain o.op = true
        · obtain ⟨v, hy⟩ := peek hk.sel ho hp r a w him hap hsort hS h
          exact hy.wpOp ho hS (go _ _ hS (pull_plain hk.sel ho hp r a w him hap hsort hS hy h))
        · have hpl : ∀ k ok, k ∈ r → k < i → ops[k]? = some ok → plain ok.op = true ∧ ok.apart ops o = true := fun k ok hkr hki hok => by
            refine ⟨?_, hap k ok hkr hki hok⟩
            rcases hk.act i o k ok ho hki hok with h1 | h1 | h1
            · exact absurd h1 hp
            · exact h1
            · have h2 := waits_listed hc h1 (fun o' ho' => by rw [ho] at ho'; injection ho' with ho'; subst ho'; exact hall)
              rw [unl k hkr] at h2
              cases h2
          have h1 := pull_act hk.sel ho hp r a w him hpl hsort hS h
          unfold wpOp
          simp only [ho]
          split
          · rename_i hw
            rw [if_pos hw] at h1
            exact .inl (actv_wp (actv_mono h1 (fun v w' g => go _ _ g.1 g.2)))
          · rename_i hw
            rw [if_neg hw] at h1
            exact go _ _ hS h1
      · have hnil : r = [] := List.eq_nil_iff_forall_not_mem.2 fun k hkr => by
          have h2 := waits_listed hc (hwt k (hlz k hkr)) (fun o' ho' => by rw [ho] at ho'; injection ho' with ho'; subst ho'; exact hall)
          rw [unl k hkr] at h2
          cases h2
        subst hnil
        have hend : Region.ready .any ops (listed.setIfInBounds i true) = [] := List.eq_nil_iff_forall_not_mem.2 fun j hj => by
          have h1 := (mem_ready.1 hj).1
          by_cases hji : i = j
          · subst hji
            have : (listed.setIfInBounds i true).getD i true = true := by simp [hsz, ← hlast]
            rw [this] at h1
            cases h1
          · rw [getD_set_ne true hji] at h1
            rcases (hr j).1 h1 with h2 | h2
            · cases h2
            · exact hji h2.symm
        have hdone : ∀ a' w', Q .normal a' w' → wpAny P .any ops Q fuel (listed.setIfInBounds i true) a' w' := fun a' w' hq => by
          cases fuel with
          | zero => exact ⟨hend, hq⟩
          | succ f => exact ⟨fun _ => hq, by rw [hend]; simp⟩
        exact wpOp_mono (fun a' w' hq => hdone a' w' hq) h.2
/-- The last waits for all. -/
def waitsAll (ops : Array Oper) (z : Nat) : Bool := (List.range z).all fun k => ((masks ops.toList []).getD z 0).testBit k
theorem waits_all {z : Nat} (h : waitsAll ops z = true) : ∀ k, k < z → Waits ops z k := fun k hk =>
  masks_right ops.toList [] (fun j => by
    by_cases hj : j < ops.size
    · simp [hj]
    · simp [hj]) (fun i k h => by simp at h) z k (List.all_eq_true.1 h k (List.mem_range.2 hk))
theorem anyZ_lex {a : Act} {w : World} {l : List Oper} {z : Nat} (hz : z + 1 = l.length) (hB : lexOK l.toArray = true) (hW : waitsAll l.toArray z = true) (hS : S w) (h : wpLex P l.toArray S (LastZ P l.toArray Q z) (l.take z) a w) : wpAny P .any l.toArray Q l.toArray.size (Array.replicate l.toArray.size false) a w := by
  have hlt : (l.take z).length = z := by rw [List.length_take]; omega
  have hnum : ∀ j, (l.take z)[j]? = if j < (l.take z).length then l.toArray[0 + j]? else none := fun j => by
    rw [hlt]
    by_cases hj : j < z
    · rw [if_pos hj, List.getElem?_take_of_lt hj]; simp
    · rw [if_neg hj, List.getElem?_eq_none (by rw [hlt]; omega)]
  refine any_of_lexZ (oz := l[z]'(by omega)) (ok_of hB) (by simp) (by simpa using hz) (waits_all hW) _ (List.range' 0 z) _ a _ (by simp; omega) List.pairwise_lt_range' (by simp) (fun j => ?_) (fun j hj => by simp at hj; exact hj) (fun i o ho hi => ?_) hS (by
    have h1 := lex_nums (ops := l.toArray) (l.take z) 0 a w hnum h
    rw [hlt] at h1
    exact h1)
  · simp only [List.mem_range'_1]
    by_cases hj : j < l.length
    · simp [hj]; omega
    · simp [hj]; omega
  · by_cases hj : i < l.length
    · simp [hj] at hi
    · simp [hj] at hi
theorem wp_region_lexZ {id z : Nat} {a : Act} {w : World} {l : List Oper} (S : World → Prop) (hz : z + 1 = l.length) (hm : P.follows .mixedOrders = true) (hB : lexOK l.toArray = true) (hW : waitsAll l.toArray z = true) (hS : S w.drew) (h : wpLex P l.toArray S (LastZ P l.toArray Q z) (l.take z) a w.drew) : (Code.region id l.toArray true).wp P Q a w :=
  wp_region_any hm (anyZ_lex hz hB hW hS h)
theorem wpIn_region_lexZ {id ln n z : Nat} {a : Act} {w : World} {l : List Oper} (S : World → Prop) (hz : z + 1 = l.length) (hm : P.follows .mixedOrders = true) (hB : lexOK l.toArray = true) (hW : waitsAll l.toArray z = true) (hd : l.all (fun o => noDefer o.op) = true) (hS : S w.drew) (h : wpLex P l.toArray S (LastZ P l.toArray (Ends Q) z) (l.take z) a w.drew) :
    (Code.region id l.toArray true).wpIn (Fence.wide.inRound ln) n P Q a w := by
  refine wpIn_region_any hm (any_in (fun i o ho c e => ?_) _ _ _ _ (anyZ_lex hz hB hW hS h))
  have h1 := List.all_eq_true.1 hd o (by simpa using Array.mem_of_getElem? ho)
  rw [e] at h1
  cases h1
/-- The last, an operation that yields nothing (a store). -/
theorem lexZ_skip {z : Nat} {o : Oper} {a : Act} {w w' : World} (ho : ops[z]? = some o) (hw : Region.wanted o (yielded ops a.tmps) = true) (hr : (execOp a.eval o).run P w = .ok .skip w') (h : Q .normal (a.put o.dst undef) w') : wpLex P ops S (LastZ P ops Q z) [] a w := by
  unfold wpLex
  refine ⟨rfl, ?_⟩
  unfold wpOp
  simp only [ho]
  rw [if_pos hw]
  refine .inl ?_
  unfold Oper.wp
  rw [hr]
  exact h
end
end Go.Proofs.Ytdhlbcbgbmgcjaa.Mix
