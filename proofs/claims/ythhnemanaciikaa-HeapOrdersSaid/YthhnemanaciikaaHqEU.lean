/- Layer 16 (heap), the landed code at Int × Int: New, Push, Top. -/
import Derived.Test.YthhnemanaciikaaHqET
import Derived.Test.YthhnemanaciikaaRecL
import Derived.Lib.OwnKind
namespace Go.Proofs.Ythhnemanaciikaa.Hq.E
open Go.RowKit Rec Ints Ge

/-- How a heap lies in memory. -/
structure Base (w : World) (B : Nat) (f : FuncId) (lb : Array Value) (b : Nat) (v : Value) (l : List El) : Prop where
  blk : w.heap[b]? = some (.cells #[.func (.func f) #[] lb, v] 50 (0, 0))
  own : w.ownsRow B 39 2 v l.length (twoS.flat l)
  le : B ≤ b
/-- .. with nothing coming before what is above it. -/
def Hin (lt : El → El → Bool) (B : Nat) (f : FuncId) (lb : Array Value) (w : World) (M : Nat → Prop) (a : Addr) (L : List El) : Prop :=
  ∃ b v l, a = ⟨b, 0, none⟩ ∧ Base w B f lb b v l ∧ (∀ k, M k ↔ k = b ∨ v.ownBlock = some k) ∧ l.Perm L ∧ Hp.Hp lt l l.length
section
variable {ltb : El → El → Bool} {w w' : World} {B : Nat} {f : FuncId} {lb : Array Value} {b g cap n : Nat} {v : Value} {l L : List El} {M : Nat → Prop} {a : Addr}
theorem Base.ne (h : Base w B f lb b v l) : v.ownBlock ≠ some b := by
  intro e
  obtain ⟨_, _, h1⟩ := Lib.ownsRow_kind h.own b e
  rw [h.blk] at h1
  injection h1 with h1
  injection h1 with _ h1
  exact absurd h1 (by decide)
theorem Base.lt (h : Base w B f lb b v l) : b < w.heap.size := (Array.getElem?_eq_some_iff.1 h.blk).1
theorem Base.big (h : Base w B f lb b v l) : B ≤ w.heap.size := by have := h.lt; have := h.le; omega
theorem Base.lies (h : Base w B f lb b (.slice (some ⟨g, 0, none⟩) n cap) l) : Lies w B f lb b g cap n l := by
  have hf := h.own.1
  have hn : l.length = n := by
    rcases h.own.2 with ⟨h1, _⟩ | ⟨_, _, _, h1, _⟩
    · cases h1
    · injection h1 with _ h1 _
      exact h1.symm
  have ho := h.own
  rw [hn] at ho
  obtain ⟨h1, h2⟩ := Hold.of_own (S := twoS) ho
  exact ⟨h.blk, h1, h2, fun e => h.ne (by rw [e]; rfl), h.le⟩
theorem Lies.base (h : Lies w B f lb b g cap n l) : Base w B f lb b (.slice (some ⟨g, 0, none⟩) n cap) l := by
  have h1 := h.hold.own'
  rw [h.len] at h1
  exact ⟨h.blk, by rw [h.len]; exact h1, h.le⟩
theorem Base.keep (h : Base w B f lb b v l) (hk : ∀ k, (k = b ∨ v.ownBlock = some k) → w'.heap[k]? = w.heap[k]?) : Base w' B f lb b v l := by
  refine ⟨(hk b (.inl rfl)).trans h.blk, ⟨h.own.1, ?_⟩, h.le⟩
  rcases h.own.2 with h1 | ⟨g, c, cur, rfl, h2, h3, h4⟩
  · exact .inl h1
  · exact .inr ⟨g, c, cur, rfl, h2, (hk g (.inr rfl)).trans h3, h4⟩
theorem Hin.lies (h : Hin ltb B f lb w M a L) : ∀ k, M k → B ≤ k ∧ k < w.heap.size := by
  obtain ⟨b, v, l, _, hb, hM, _⟩ := h
  intro k hk
  rcases (hM k).1 hk with rfl | h1
  · exact ⟨hb.le, hb.lt⟩
  · exact hb.own.lt k h1
theorem Hin.keep (h : Hin ltb B f lb w M a L) (hk : ∀ k, M k → w'.heap[k]? = w.heap[k]?) : Hin ltb B f lb w' M a L := by
  obtain ⟨b, v, l, rfl, hb, hM, hp⟩ := h
  exact ⟨b, v, l, rfl, hb.keep fun k h1 => hk k ((hM k).2 h1), hM, hp⟩
/-- Behind an append whose slice was stored. -/
theorem stored {w w2 : World} {v2 : Value} {x : El} (h : Base w B f lb b v l) {o : Obj} (ho : w2.ownsRow B 39 2 v2 (l.length + 1) (twoS.flat (l ++ [x]))) (hg : (w.alloc o).grownBy w2 v.ownBlock) (hl : v2.ownBlock = v.ownBlock ∨ v2.ownBlock = some (w.alloc o).heap.size) :
    w2.heap[b]? = some (.cells #[.func (.func f) #[] lb, v] 50 (0, 0)) ∧ Base (w2.setCell ⟨b, 1, none⟩ v2) B f lb b v2 (l ++ [x]) ∧ Only (fun k => k = b ∨ v.ownBlock = some k) w (w2.setCell ⟨b, 1, none⟩ v2) ∧ ∀ k, v2.ownBlock = some k → v.ownBlock = some k ∨ w.heap.size ≤ k := by
  have hlt := h.lt
  have e1 : w2.heap[b]? = some (.cells #[.func (.func f) #[] lb, v] 50 (0, 0)) := by
    rw [hg.block b (by rw [World.size_alloc]; omega) (fun e => h.ne e.symm), Below.heap_alloc _ _ _ hlt]
    exact h.blk
  have hn : v2.ownBlock ≠ some b := by
    rcases hl with h1 | h1
    · rw [h1]; exact h.ne
    · rw [h1]
      intro e
      injection e with e
      rw [World.size_alloc] at e
      omega
  refine ⟨e1, ⟨?_, ?_, h.le⟩, ?_, ?_⟩
  · rw [heap_setCell_same w2 b 1 _ _ v2 e1]
    rfl
  · have e2 : (l ++ [x]).length = l.length + 1 := by simp
    rw [e2]
    exact ownr_only ho (Only.setCell w2 ⟨b, 1, none⟩ v2) (fun k hk e => hn (by rw [hk, e]))
  · exact ((Only.alloc w o).trans ((Only.of_grown hg).mono fun k hk => .inr hk) (fun _ _ h => h)).trans (Only.setCell w2 ⟨b, 1, none⟩ v2) (fun _ _ h => .inl h)
  · intro k hk
    rcases hl with h1 | h1
    · exact .inl (by rw [← h1]; exact hk)
    · rw [h1] at hk
      injection hk with hk
      rw [World.size_alloc] at hk
      exact .inr (by omega)
/-- The last one was cleared, and the slice cut off ahead of it. -/
theorem popped {k : Nat} {w3 : World} (h : Lies w B f lb b g cap (k + 1) l) (z : El) (hw : w3 = w.setCells g (k * 2) (twoS.flat (List.replicate 1 z))) :
    w3.heap[b]? = some (.cells #[.func (.func f) #[] lb, .slice (some ⟨g, 0, none⟩) (k + 1) cap] 50 (0, 0)) ∧ Lies (w3.setCell ⟨b, 1, none⟩ (.slice (some ⟨g, 0, none⟩) k cap)) B f lb b g cap k (l.take k) ∧ Only (fun k => k = b ∨ k = g) w (w3.setCell ⟨b, 1, none⟩ (.slice (some ⟨g, 0, none⟩) k cap)) := by
  have ho : Only (fun k => k = g) w w3 := by rw [hw]; exact only_setCells w g _ _
  have e1 := (ho.block b (Array.getElem?_eq_some_iff.1 h.blk).1 h.ne).trans h.blk
  have hlen := h.len
  have hfit := h.hold.fit
  have hp := h.hold.put (i := k) (List.replicate 1 z) (by omega) (by simp only [List.length_replicate]; omega)
  have hc : Hold twoS w3 B 39 g cap (l.take k) := by
    have h1 := hp.cut k
    rw [List.append_assoc, List.take_append_of_le_length (by rw [List.length_take]; omega), List.take_take, Nat.min_self] at h1
    rw [hw]
    exact h1
  refine ⟨e1, ⟨?_, hc.keep ?_, by rw [List.length_take]; omega, h.ne, h.le⟩, (ho.mono fun _ h => .inr h).trans (Only.setCell _ _ _) fun _ _ h => .inl h⟩
  · rw [heap_setCell_same w3 b 1 _ _ _ e1]
    rfl
  · exact Below.heap_setCell _ _ _ _ (fun e => h.ne e.symm)
theorem cut_of {k : Nat} (h : l.length = k + 1) : (Hp.sw l 0 k).take k = Hp.cut l := by
  unfold Hp.sw Hp.cut
  rw [h, Nat.add_sub_cancel, List.take_set_of_le (Nat.le_refl _)]
end
theorem new_any (lt : El → El → Bool) (B : Nat) (f : FuncId) (lb : Array Value) (w : World) (hB : B ≤ w.heap.size) :
    Calls Try.prog 20 #[.func (.func f) #[] lb] w fun e w' => ∃ a M, e = .returned (.pointer (some a)) ∧ Hin lt B f lb w' M a [] ∧ (∀ k, M k → w.heap.size ≤ k) ∧ Below w.heap.size w w' := by
  have hq : ∀ w : World, (binOp BinOp.eql 43 (Value.func (Fn.func f) #[] lb) Value.nilFunc).run Try.prog w = .ok (.bool false) w := fun w => by rfl
  have HB := Lib.hid hB
  clear hB
  go_enter Try.func20, Try.ntmps20
  go_wp2
  go_ret
  refine ⟨_, fun k => k = w.heap.size, rfl, ⟨w.heap.size, .slice none 0 0, [], rfl, ⟨heap_alloc_new w _, World.ownsRow_nil _ _ _ _, HB.out⟩, fun k => ⟨fun h => .inl h, fun h => ?_⟩, List.Perm.refl _, fun j _ h => absurd h (by simp)⟩, fun k h => by rw [h]; exact Nat.le_refl _, (Below.refl _ _).alloc (Nat.le_refl _) _⟩
  rcases h with h | h
  · exact h
  · cases h
end Go.Proofs.Ythhnemanaciikaa.Hq.E
