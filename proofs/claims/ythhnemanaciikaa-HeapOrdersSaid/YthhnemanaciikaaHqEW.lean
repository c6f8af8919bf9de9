/- Layer 16 (heap), the landed code at Int × Int: a heap of an order. -/
import Derived.Test.YthhnemanaciikaaHqEV
namespace Go.Proofs.Ythhnemanaciikaa.Hq.E
open Go.RowKit Rec Ints Ge

theorem heap_ok (lt : El → El → Bool) (B : Nat) (Inv : World → Prop) (f : FuncId) (lb : Array Value) (hL : Less lt B Inv f lb) : HeapOk pairF (pl) ((0 : Int), (0 : Int)) lt B Inv (.func (.func f) #[] lb) (Hin lt B f lb) where
  lies h := h.lies
  keep h _ hk := h.keep hk
  new w _ hB := new_any lt B f lb w hB
  push w M a L x hi h hn := by
    obtain ⟨b, v, l, rfl, hb, hM, hp, hh⟩ := h
    refine (push_any lt B Inv f lb hL w b v l x hi hb (by rw [hp.length_eq]; exact hn) hh).mono ?_
    rintro e w' ⟨rfl, v', l', hb', hp', hh', ho, hv⟩
    refine ⟨rfl, fun k => k = b ∨ v'.ownBlock = some k, ⟨b, v', l', rfl, hb', fun _ => Iff.rfl, ?_, hh'⟩, ho.mono fun k hk => (hM k).2 hk, fun k hk => ?_⟩
    · exact (hp'.trans (List.perm_append_singleton x l)).trans (hp.cons x)
    · rcases hk with rfl | hk
      · exact .inl ((hM k).2 (.inl rfl))
      · rcases hv k hk with h1 | h1
        · exact .inl ((hM k).2 (.inr h1))
        · exact .inr h1
  pop0 w M a _ h := by
    obtain ⟨b, v, l, rfl, hb, hM, hp, hh⟩ := h
    obtain rfl := List.perm_nil.1 hp
    refine (pop_none B f lb w b v hb).mono ?_
    rintro e w' ⟨rfl, hb1⟩
    exact ⟨rfl, M, Hin.keep ⟨b, v, [], rfl, hb, hM, List.Perm.refl _, hh⟩ fun k hk => hb1.block k (Hin.lies (ltb := lt) (L := []) ⟨b, v, [], rfl, hb, hM, List.Perm.refl _, hh⟩ k hk).2, Only.of_below hb1, fun _ h => .inl h⟩
  pop w M a L hi h hne hn := by
    obtain ⟨b, v, l, rfl, hb, hM, hp, hh⟩ := h
    have hl0 : 0 < l.length := by
      rw [hp.length_eq]
      exact List.length_pos_iff.2 hne
    obtain ⟨k, hk⟩ : ∃ k, l.length = k + 1 := ⟨l.length - 1, by omega⟩
    obtain ⟨g, cap, rfl⟩ := Joins.ownsRow_form hb.own hl0
    rw [hk] at hb
    have hl := hb.lies
    refine (pop_any lt B Inv f lb hL w b g cap k l (Hp.G l 0) hi hl (by have := hp.length_eq; omega) (el_G hl0) hh).mono ?_
    rintro e w' ⟨rfl, l', hl', hp', hh', ho⟩
    have hq := (Hp.cut_perm hl0).symm.trans (hp'.symm.cons (Hp.G l 0))
    refine ⟨_, l', rfl, hp.symm.trans hq, fun y hy => ?_, fun j => j = b ∨ j = g, ⟨b, _, l', rfl, hl'.base, fun j => ⟨fun h => h.elim .inl (fun h => .inr (by rw [h]; rfl)), fun h => h.elim .inl (fun h => .inr (by injection h with h; exact h.symm))⟩, List.Perm.refl _, by rw [hl'.len]; exact hh'⟩, ho.mono fun j hj => ?_, fun j hj => ?_⟩
    · have h1 : y ∈ l := hq.mem_iff.2 (List.mem_cons_of_mem _ hy)
      obtain ⟨i, h2, h3⟩ := List.getElem_of_mem h1
      have h4 := Hp.Hp.top (swo hL.swo) hL.swo.irrefl hh i h2
      rw [Hp.G_at h2, h3] at h4
      exact h4
    · exact (hM j).2 (hj.elim .inl (fun h => .inr (by rw [h]; rfl)))
    · exact .inl ((hM j).2 (hj.elim .inl (fun h => .inr (by rw [h]; rfl))))
  len w M a L _ h hn := by
    obtain ⟨b, v, l, rfl, hb, hM, hp, hh⟩ := h
    obtain ⟨A, c, rfl, -⟩ := ownr_slice hb.own
    rw [← hp.length_eq]
    exact len_any w b f lb A l.length c hb.blk
theorem top_ok (lt : El → El → Bool) (B : Nat) (Inv : World → Prop) (f : FuncId) (lb : Array Value) (hL : Less lt B Inv f lb) : TopOk 29 (pl) ((0 : Int), (0 : Int)) lt Inv (Hin lt B f lb) where
  top0 w M a _ h := by
    obtain ⟨b, v, l, rfl, hb, hM, hp, hh⟩ := h
    obtain rfl := List.perm_nil.1 hp
    exact top_none B f lb w b v hb
  top w M a L _ h hne hn := by
    obtain ⟨b, v, l, rfl, hb, hM, hp, hh⟩ := h
    have hl0 : 0 < l.length := by
      rw [hp.length_eq]
      exact List.length_pos_iff.2 hne
    obtain ⟨g, cap, rfl⟩ := Joins.ownsRow_form hb.own hl0
    refine (top_some B f lb w b g cap l.length l (Hp.G l 0) hb.lies (el_G hl0)).mono ?_
    rintro e w' ⟨rfl, hb1⟩
    refine ⟨_, rfl, hp.mem_iff.1 (by rw [Hp.G_at hl0]; exact List.getElem_mem hl0), fun y hy => ?_, hb1⟩
    obtain ⟨i, h2, h3⟩ := List.getElem_of_mem (hp.mem_iff.2 hy)
    have h4 := Hp.Hp.top (swo hL.swo) hL.swo.irrefl hh i h2
    rw [Hp.G_at h2, h3] at h4
    exact h4
end Go.Proofs.Ythhnemanaciikaa.Hq.E
