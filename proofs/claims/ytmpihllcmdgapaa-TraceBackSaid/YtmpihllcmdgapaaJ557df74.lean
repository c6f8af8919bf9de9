/- Lemmas that the proof stands on, in build order: SmpT TrcT FldX FldY FldVr FldZ FldQ0. -/
import Derived.RegionTactic
import Derived.Deep.RegionHeld3
import Derived.Test.YtmpihllcmdgapaaJ2b065c4
import Derived.Test.YtmpihllcmdgapaaJ349813e
import Derived.Test.YtmpihllcmdgapaaJ4daa736
/- Layer 5 (sample): Take, as a contract. -/
namespace Go.Proofs.Ytmpihllcmdgapaa.Smp
open Go.RowKit Var Fld

attribute [local go_sem] Oper.semAt_some

/-- What stands behind a piece of code, behind a letter. -/
def NormTo (C : Act → World → Prop) : Exit → Act → World → Prop
  | .normal, a, w => C a w
  | _, _, _ => False
theorem wp_norm {c : Code} {P : Program} {Q : Exit → Act → World → Prop} {a : Act} {w : World} (h : ∀ C : Act → World → Prop, (∀ a w, Q .normal a w → C a w) → c.wp P (NormTo C) a w) : c.wp P Q a w := by
  refine Code.wp_mono (fun e a w hq => ?_) (h (fun a w => Q .normal a w) (fun _ _ h => h))
  cases e <;> first | exact hq | exact hq.elim

/-- Three results in cells. -/
theorem results_cells3 {P : Program} {fn : Func} {p q r : Tmp} {tp tq tr : TypeId} (h : fn.results = #[.cell p tp, .cell q tq, .cell r tr]) (tmps : Array Value) (w : World) {ap aq ar : Addr} {vp vq vr : Value}
    (hp : tmps.getD p undef = .pointer (some ap)) (hq : tmps.getD q undef = .pointer (some aq)) (hr : tmps.getD r undef = .pointer (some ar))
    (lp : (loadVar tp ap).run P w = .ok vp w) (lq : (loadVar tq aq).run P w = .ok vq w) (lr : (loadVar tr ar).run P w = .ok vr w) :
    (results fn tmps).run P w = .ok (.tuple #[vp, vq, vr]) w := by
  have hp' : tmps[p]?.getD undef = .pointer (some ap) := by simpa using hp
  have hq' : tmps[q]?.getD undef = .pointer (some aq) := by simpa using hq
  have hr' : tmps[r]?.getD undef = .pointer (some ar) := by simpa using hr
  simp [results, h, hp', hq', hr', asAddr, Sem.run_bind, Result.andThen, lp, lq, lr]

theorem load_slice {w : World} {b : Nat} {v : Value} (h : w.cell? ⟨b, 0, none⟩ = some v) : (loadVar 22 ⟨b, 0, none⟩).run Try.prog w = .ok v w := by
  simp [go_sem, h]
theorem load_int {w : World} {b : Nat} {v : Value} (h : w.cell? ⟨b, 0, none⟩ = some v) : (loadVar 3 ⟨b, 0, none⟩).run Try.prog w = .ok v w := by
  simp [go_sem, h]
theorem load_errno {w : World} {b : Nat} {v : Value} (h : w.cell? ⟨b, 0, none⟩ = some v) : (loadVar 25 ⟨b, 0, none⟩).run Try.prog w = .ok v w := by
  simp [go_sem, h]

theorem alloc_old (w : World) (o : Obj) {k : Nat} {c : Obj} (h : w.heap[k]? = some c) : (w.alloc o).heap[k]? = some c := (Below.heap_alloc w o k (Array.getElem?_eq_some_iff.1 h).1).trans h
theorem allocs3 (w : World) (a b c : Obj) : (((w.alloc a).alloc b).alloc c).heap[w.heap.size]? = some a ∧ (((w.alloc a).alloc b).alloc c).heap[w.heap.size + 1]? = some b ∧ (((w.alloc a).alloc b).alloc c).heap[w.heap.size + 1 + 1]? = some c := by
  refine ⟨alloc_old _ _ (alloc_old _ _ (heap_alloc_new w a)), alloc_old _ _ ?_, ?_⟩
  · have := heap_alloc_new (w.alloc a) b
    rwa [World.size_alloc] at this
  · have := heap_alloc_new ((w.alloc a).alloc b) c
    rwa [World.size_alloc, World.size_alloc] at this
theorem allocs5 (w : World) (a b c d e : Obj) : (((((w.alloc a).alloc b).alloc c).alloc d).alloc e).heap[w.heap.size]? = some a ∧ (((((w.alloc a).alloc b).alloc c).alloc d).alloc e).heap[w.heap.size + 1]? = some b ∧ (((((w.alloc a).alloc b).alloc c).alloc d).alloc e).heap[w.heap.size + 1 + 1]? = some c ∧
    (((((w.alloc a).alloc b).alloc c).alloc d).alloc e).heap[w.heap.size + 1 + 1 + 1]? = some d ∧ (((((w.alloc a).alloc b).alloc c).alloc d).alloc e).heap[w.heap.size + 1 + 1 + 1 + 1]? = some e := by
  obtain ⟨h0, h1, h2⟩ := allocs3 w a b c
  refine ⟨alloc_old _ _ (alloc_old _ _ h0), alloc_old _ _ (alloc_old _ _ h1), alloc_old _ _ (alloc_old _ _ h2), alloc_old _ _ ?_, ?_⟩
  · have := heap_alloc_new (((w.alloc a).alloc b).alloc c) d
    rwa [World.size_alloc, World.size_alloc, World.size_alloc] at this
  · have := heap_alloc_new ((((w.alloc a).alloc b).alloc c).alloc d) e
    rwa [World.size_alloc, World.size_alloc, World.size_alloc, World.size_alloc] at this
theorem below3 (w : World) (a b c : Obj) : Below w.heap.size w (((w.alloc a).alloc b).alloc c) := (((Below.refl _ w).alloc (Nat.le_refl _) _).alloc (by simp) _).alloc (by simp; omega) _
theorem below5 (w : World) (a b c d e : Obj) : Below w.heap.size w (((((w.alloc a).alloc b).alloc c).alloc d).alloc e) := ((below3 w a b c).alloc (by simp; omega) _).alloc (by simp; omega) _

theorem stores3 {w : World} {b0 b1 b2 : Nat} {u0 u1 u2 : Value} (v0 v1 v2 : Value) {t0 t1 t2 : TypeId} (h0 : w.heap[b0]? = some (.cells #[u0] t0 (0, 0))) (h1 : w.heap[b1]? = some (.cells #[u1] t1 (0, 0))) (h2 : w.heap[b2]? = some (.cells #[u2] t2 (0, 0))) (n1 : b1 ≠ b0) (n2 : b2 ≠ b0) (n3 : b2 ≠ b1) :
    (w.cell? ⟨b0, 0, none⟩ = some u0 ∧ w.frozen? ⟨b0, 0, none⟩ = false) ∧ ((w.setCell ⟨b0, 0, none⟩ v0).cell? ⟨b1, 0, none⟩ = some u1 ∧ (w.setCell ⟨b0, 0, none⟩ v0).frozen? ⟨b1, 0, none⟩ = false) ∧
    (((w.setCell ⟨b0, 0, none⟩ v0).setCell ⟨b1, 0, none⟩ v1).cell? ⟨b2, 0, none⟩ = some u2 ∧ ((w.setCell ⟨b0, 0, none⟩ v0).setCell ⟨b1, 0, none⟩ v1).frozen? ⟨b2, 0, none⟩ = false) ∧
    (((w.setCell ⟨b0, 0, none⟩ v0).setCell ⟨b1, 0, none⟩ v1).setCell ⟨b2, 0, none⟩ v2).heap[b0]? = some (.cells #[v0] t0 (0, 0)) ∧ (((w.setCell ⟨b0, 0, none⟩ v0).setCell ⟨b1, 0, none⟩ v1).setCell ⟨b2, 0, none⟩ v2).heap[b1]? = some (.cells #[v1] t1 (0, 0)) ∧
    (((w.setCell ⟨b0, 0, none⟩ v0).setCell ⟨b1, 0, none⟩ v1).setCell ⟨b2, 0, none⟩ v2).heap[b2]? = some (.cells #[v2] t2 (0, 0)) ∧ Only (fun i => i = b0 ∨ i = b1 ∨ i = b2) w (((w.setCell ⟨b0, 0, none⟩ v0).setCell ⟨b1, 0, none⟩ v1).setCell ⟨b2, 0, none⟩ v2) := by
  have o1 := Only.setCell w ⟨b0, 0, none⟩ v0
  have o2 := Only.setCell (w.setCell ⟨b0, 0, none⟩ v0) ⟨b1, 0, none⟩ v1
  have o3 := Only.setCell ((w.setCell ⟨b0, 0, none⟩ v0).setCell ⟨b1, 0, none⟩ v1) ⟨b2, 0, none⟩ v2
  have k0 := set_blk (j := 0) (u := v0) h0
  have k1 := o1.at h1 n1
  have k2 := o1.at h2 n2
  have l0 := o2.at k0 n1.symm
  have l1 := set_blk (j := 0) (u := v1) k1
  have l2 := o2.at k2 n3
  have m0 := o3.at l0 n2.symm
  have m1 := o3.at l1 n3.symm
  have m2 := set_blk (j := 0) (u := v2) l2
  exact ⟨⟨cell_of_blk h0 rfl, free_of_blk h0⟩, ⟨cell_of_blk k1 rfl, free_of_blk k1⟩, ⟨cell_of_blk l2 rfl, free_of_blk l2⟩, m0, m1, m2, ((o1.mono (fun i h => Or.inl h)).trans o2 (fun i _ h => .inr (.inl h))).trans o3 (fun i _ h => .inr (.inr h))⟩

/-- What Take leaves. -/
def TakeTo (bs : List Int) (k : Int) (w : World) (e : Ending) (w' : World) : Prop :=
  ∃ v, e = .returned (.tuple #[v, .int .i64 (tkN bs k : Int), .int .i64 (tkE bs k : Int)]) ∧ w'.ownsRow w.heap.size 38 3 v (tkL bs k).length (flat (tkL bs k)) ∧ Below w.heap.size w w'

theorem takeTo_no {bs : List Int} {k : Int} {w w' : World} {e : Nat} (he : tkE bs k = e) (h0 : e ≠ 0) (hb : Below w.heap.size w w') : TakeTo bs k w (.returned (.tuple #[.slice none 0 0, .int .i64 0, .int .i64 (e : Int)])) w' := by
  subst he
  have e1 : tkL bs k = [] := by unfold tkL; rw [if_neg h0]
  have e2 : tkN bs k = 0 := by unfold tkN; rw [if_neg h0]
  refine ⟨_, by rw [e2]; rfl, ?_, hb⟩
  rw [e1]
  exact World.ownsRow_nil _ _ _ _

theorem Only.fix {M : Nat → Prop} {w w' : World} {l : Nat} (h : Only (fun i => M i ∨ i = l) w w') (hl : w'.heap[l]? = w.heap[l]?) : Only M w w' :=
  ⟨h.os, h.tape, h.output, h.size, fun k hk hn => by
    by_cases e : k = l
    · subst e; exact hl
    · exact h.block k hk (fun hm => hm.elim hn e)⟩

/-- Between two rounds: the samples so far, the last one; of what lay when the iterator began only these and the Reader have turned. -/
structure TSt (W1 W : World) (B7 B8 g : Nat) (acc : List S) (v : Value) : Prop where
  only : Only (fun i => i = B7 ∨ i = B8 ∨ i = g) W1 W
  c7 : W.heap[B7]? = some (.cells #[v] 22 (0, 0))
  c8 : W.heap[B8]? = some (.cells (las acc).cells 38 (0, 0))
  own : W.ownsRow W1.heap.size 38 3 v acc.length (flat acc)

theorem own3_lt {w : World} {base n i : Nat} {e : TypeId} {v : Value} {xs : List Value} (h : w.ownsRow base e 3 v n xs) (hi : v.ownBlock = some i) : base ≤ i ∧ i < w.heap.size := by
  rcases h.2 with ⟨rfl, _⟩ | ⟨g, cap, cur, rfl, h1, hg, _⟩
  · simp [Value.ownBlock] at hi
  · simp [Value.ownBlock] at hi
    subst hi
    exact ⟨h1, (Array.getElem?_eq_some_iff.1 hg).1⟩
theorem own3_only {M : Nat → Prop} {w w' : World} {base n : Nat} {e : TypeId} {v : Value} {xs : List Value} (ho : w.ownsRow base e 3 v n xs) (h : Only M w w') (hn : ∀ k, v.ownBlock = some k → ¬ M k) : w'.ownsRow base e 3 v n xs := by
  refine ⟨ho.1, ?_⟩
  rcases ho.2 with h0 | ⟨g, cap, cur, rfl, h1, hg, rest⟩
  · exact .inl h0
  · exact .inr ⟨g, cap, cur, rfl, h1, h.at hg (hn g rfl), rest⟩
theorem own3_base {w : World} {base base' n : Nat} {e : TypeId} {v : Value} {xs : List Value} (h : w.ownsRow base e 3 v n xs) (hb : base' ≤ base) : w.ownsRow base' e 3 v n xs := by
  refine ⟨h.1, ?_⟩
  rcases h.2 with h0 | ⟨g, cap, cur, rfl, h1, rest⟩
  · exact .inl h0
  · exact .inr ⟨g, cap, cur, rfl, Nat.le_trans hb h1, rest⟩
theorem own3_slice {w : World} {base n : Nat} {e : TypeId} {v : Value} {xs : List Value} (h : w.ownsRow base e 3 v n xs) : ∃ A c, v = .slice A n c ∧ n ≤ c := by
  rcases h.2 with ⟨rfl, rfl⟩ | ⟨g, cap, cur, rfl, _, _, hc, _⟩
  · exact ⟨none, 0, rfl, Nat.le_refl _⟩
  · exact ⟨_, cap, rfl, hc⟩

theorem new3 (w : World) (s : S) (t : TypeId) : ∀ j u, [Value.int .i64 s.t, .int .i64 s.x, .int .i64 s.y][j]? = some u → (w.alloc (.cells #[.int .i64 s.t, .int .i64 s.x, .int .i64 s.y] t)).cell? ((⟨w.heap.size, 0, none⟩ : Addr).add j) = some u := by
  intro j u hj
  have q := heap_alloc_new w (.cells #[.int .i64 s.t, .int .i64 s.x, .int .i64 s.y] t)
  have hadd : (⟨w.heap.size, 0, none⟩ : Addr).add j = ⟨w.heap.size, j, none⟩ := by unfold Addr.add; split <;> simp_all
  rw [hadd]
  refine cell_of_blk q ?_
  simpa using hj
theorem info_smp : (Try.prog.info? 38).map (fun i => (i.zero, i.size, i.bytes)) = some (some (.agg #[.int .i64 0, .int .i64 0, .int .i64 0]), 3, 24) := by kernel_rfl

set_option maxHeartbeats 3200000 in
set_option maxRecDepth 100000 in
theorem take_any (A : Option Addr) (n c : Nat) (bs : List Int) (k : Int) (w : World) (h : Row .u8 w w.heap.size A n bs) (hnil : A = none → c = 0) (hn : n ≤ 4398046511104) (hbyt : ∀ x ∈ bs, 0 ≤ x ∧ x ≤ 255) :
    Calls Try.prog 30 #[.slice A n c, .int .i64 k] w (TakeTo bs k w) := by
  have H := Lib.hid h
  have HNIL := Lib.hid hnil
  have HN := Lib.hid hn
  have HY := Lib.hid hbyt
  clear h hnil hn hbyt
  refine (callsIn_wide (n := 9)).1 ?_
  refine callsIn_of_wp_marks Try.func30 rfl trivial ?_
  simp only [Try.ntmps30, List.size_toArray, List.length_cons, List.length_nil, Nat.reduceAdd, Nat.reduceSub, Array.replicate_succ, Array.replicate_zero, List.push_toArray, List.append_toArray, List.nil_append, List.cons_append]
  by_cases hbad : k < 0 ∨ 2048 < k
  · have he : tkE bs k = 3 := by unfold tkE; rw [if_pos hbad]
    by_cases h0 : k < 0
    · have hd0 : decide (k < 0) = true := decide_eq_true h0
      gi_wp2
      obtain ⟨a0, a1, a2⟩ := allocs3 w (.cells #[.slice none 0 0] 22) (.cells #[.int .i64 0] 3) (.cells #[.int .i64 3] 25)
      exact ⟨_, results_cells3 rfl _ _ rfl rfl rfl (load_slice (cell_of_blk a0 rfl)) (load_int (cell_of_blk a1 rfl)) (load_errno (cell_of_blk a2 rfl)), takeTo_no (e := 3) he (by omega) (below3 _ _ _ _)⟩
    · have hd0 : decide (k < 0) = false := decide_eq_false h0
      have hd1 : decide (2048 < k) = true := decide_eq_true (by omega)
      gi_wp2
      obtain ⟨a0, a1, a2⟩ := allocs3 w (.cells #[.slice none 0 0] 22) (.cells #[.int .i64 0] 3) (.cells #[.int .i64 3] 25)
      exact ⟨_, results_cells3 rfl _ _ rfl rfl rfl (load_slice (cell_of_blk a0 rfl)) (load_int (cell_of_blk a1 rfl)) (load_errno (cell_of_blk a2 rfl)), takeTo_no (e := 3) he (by omega) (below3 _ _ _ _)⟩
  · have hd0 : decide (k < 0) = false := decide_eq_false (by omega)
    have hd1 : decide (2048 < k) = false := decide_eq_false (by omega)
    obtain ⟨q, rfl⟩ := Int.eq_ofNat_of_zero_le (show 0 ≤ k by omega)
    have hq : q ≤ 2048 := by omega
    have heE : tkE bs (q : Int) = (tk q [] bs).2.2 := by unfold tkE; rw [if_neg hbad]; rfl
    have HEE := Lib.hid heE
    clear heE hbad hd0 hd1
    have hd0 : decide ((q : Int) < 0) = false := decide_eq_false (by omega)
    have hd1 : decide (2048 < (q : Int)) = false := decide_eq_false (by omega)
    obtain ⟨f0, f1, f2, f7, f8⟩ := allocs5 w (.cells #[.slice none 0 0] 22) (.cells #[.int .i64 0] 3) (.cells #[.int .i64 0] 25) (.cells #[.slice none 0 0] 22) (.cells #[.int .i64 0, .int .i64 0, .int .i64 0] 38)
    have hb5 := below5 w (.cells #[.slice none 0 0] 22) (.cells #[.int .i64 0] 3) (.cells #[.int .i64 0] 25) (.cells #[.slice none 0 0] 22) (.cells #[.int .i64 0, .int .i64 0, .int .i64 0] 38)
    have hs5 : (((((w.alloc (.cells #[.slice none 0 0] 22)).alloc (.cells #[.int .i64 0] 3)).alloc (.cells #[.int .i64 0] 25)).alloc (.cells #[.slice none 0 0] 22)).alloc (.cells #[.int .i64 0, .int .i64 0, .int .i64 0] 38)).heap.size = w.heap.size + 5 := by simp
    have F0 := Lib.hid f0
    have F1 := Lib.hid f1
    have F2 := Lib.hid f2
    have F7 := Lib.hid f7
    have F8 := Lib.hid f8
    have HB5 := Lib.hid hb5
    clear f0 f1 f2 f7 f8 hb5
    gi_wp2_with fail
    generalize (((((w.alloc (.cells #[.slice none 0 0] 22)).alloc (.cells #[.int .i64 0] 3)).alloc (.cells #[.int .i64 0] 25)).alloc (.cells #[.slice none 0 0] 22)).alloc (.cells #[.int .i64 0, .int .i64 0, .int .i64 0] 38)) = w5 at F0 F1 F2 F7 F8 HB5 hs5 ⊢
    refine ⟨trivial, ?_⟩
    refine (callsIn_wide.2 (readL A n c w.heap.size bs w5 (H.out.below HB5.out) HB5.out.size HNIL.out HN.out HY.out)).mono ?_
    rintro e6 w6 ⟨g, rfl, hrd6, hb6⟩
    have HRD6 := Lib.hid hrd6
    have HB6 := Lib.hid hb6
    have hglo := hrd6.low
    have hgl6 := hrd6.lt
    clear hrd6 hb6
    gi_wp2_with fail
    refine ⟨trivial, ?_⟩
    refine (callsIn_wide.2 (read_any g (q : Int) w6)).mono ?_
    rintro e7 w7' ⟨rfl, rfl⟩
    gi_wp2_with fail
    have hq7 : ((w6.alloc (.cells #[.pointer (some ⟨g, 0, none⟩)] 49)).alloc (.cells #[.int .i64 (q : Int)] 3)).heap[w6.heap.size]? = some (.cells #[.pointer (some ⟨g, 0, none⟩)] 49 (0, 0)) := alloc_old _ _ (heap_alloc_new w6 _)
    have hq8 : ((w6.alloc (.cells #[.pointer (some ⟨g, 0, none⟩)] 49)).alloc (.cells #[.int .i64 (q : Int)] 3)).heap[w6.heap.size + 1]? = some (.cells #[.int .i64 (q : Int)] 3 (0, 0)) := by
      have := heap_alloc_new (w6.alloc (.cells #[.pointer (some ⟨g, 0, none⟩)] 49)) (.cells #[.int .i64 (q : Int)] 3)
      rwa [World.size_alloc] at this
    have hb7 : Below w6.heap.size w6 ((w6.alloc (.cells #[.pointer (some ⟨g, 0, none⟩)] 49)).alloc (.cells #[.int .i64 (q : Int)] 3)) := ((Below.refl _ w6).alloc (Nat.le_refl _) _).alloc (by simp) _
    have hs7 : ((w6.alloc (.cells #[.pointer (some ⟨g, 0, none⟩)] 49)).alloc (.cells #[.int .i64 (q : Int)] 3)).heap.size = w6.heap.size + 2 := by simp
    generalize ((w6.alloc (.cells #[.pointer (some ⟨g, 0, none⟩)] 49)).alloc (.cells #[.int .i64 (q : Int)] 3)) = w7 at hq7 hq8 hb7 hs7 ⊢
    refine range_on (gf := 70) (lb := #[.pointer (some ⟨w6.heap.size + 1, 0, none⟩), .pointer (some ⟨w6.heap.size, 0, none⟩)]) rfl (enters_of Try.func70 (by kernel_rfl) rfl) ?_
    intro fn rec W1 hrec hl hd hs1 hb1
    rw [hs7] at hl hd hs1 hb1 ⊢
    have hb57 : Below w5.heap.size w5 W1 := HB6.out.trans ((hb7.trans (hb1.mono (by omega))).mono HB6.out.size)
    have hb61 : Below w6.heap.size w6 W1 := hb7.trans (hb1.mono (by omega))
    have hlo : w5.heap.size ≤ w6.heap.size := HB6.out.size
    have G0 := Lib.hid ((hb57.block _ (Array.getElem?_eq_some_iff.1 F0.out).1).trans F0.out)
    have G1 := Lib.hid ((hb57.block _ (Array.getElem?_eq_some_iff.1 F1.out).1).trans F1.out)
    have G2 := Lib.hid ((hb57.block _ (Array.getElem?_eq_some_iff.1 F2.out).1).trans F2.out)
    have G7 := Lib.hid ((hb57.block _ (Array.getElem?_eq_some_iff.1 F7.out).1).trans F7.out)
    have G8 := Lib.hid ((hb57.block _ (Array.getElem?_eq_some_iff.1 F8.out).1).trans F8.out)
    have GR := Lib.hid ((hb1.block w6.heap.size (by omega)).trans hq7)
    have GN := Lib.hid ((hb1.block (w6.heap.size + 1) (by omega)).trans hq8)
    have GL := Lib.hid hl
    have GD := Lib.hid hd
    have HRD1 := Lib.hid (HRD6.out.below hb61)
    have HB1 : Hid (Below w.heap.size w W1) := HB5.out.trans (hb57.mono HB5.out.size)
    clear F0 F1 F2 F7 F8 hq7 hq8 hb7 hb1 hl hd hb57 hb61 HB6 HRD6 HB5
    have hT0 : TSt W1 W1 (w.heap.size + 1 + 1 + 1) (w.heap.size + 1 + 1 + 1 + 1) g [] (.slice none 0 0) := ⟨Only.refl _ _, G7.out, G8.out, World.ownsRow_nil _ _ _ _⟩
    refine (read_run 7 (w6.heap.size + 2 + 1) (w6.heap.size + 1) w6.heap.size g w5.heap.size q bs (fun acc W => ∃ v, TSt W1 W (w.heap.size + 1 + 1 + 1) (w.heap.size + 1 + 1 + 1 + 1) g acc v)
      (fun W => W.heap[w6.heap.size + 2 + 1]? = some (.loop (rec .done (some .ret))) ∧ W.heap[w.heap.size]? = some (.cells #[.slice none 0 0] 22 (0, 0)) ∧ W.heap[w.heap.size + 1]? = some (.cells #[.int .i64 0] 3 (0, 0)) ∧ W.heap[w.heap.size + 1 + 1]? = some (.cells #[.int .i64 2] 25 (0, 0)) ∧ W.heap[w6.heap.size + 2]? = some (.deferred (some [])) ∧ Below w.heap.size w W)
      W1 hq (cell_of_blk GN.out rfl) (fun acc W ⟨v, hv⟩ => cell_of_blk (hv.only.at GR.out (by omega)) rfl)
      (fun acc W W' ⟨v, hv⟩ hO => ⟨v, hv.only.trans hO (fun i _ h => .inr (.inr h)), hO.at hv.c7 (by omega), hO.at hv.c8 (by omega), own3_only hv.own hO (fun i hi h => by have := (own3_lt hv.own hi).1; omega)⟩) ?round ⟨_, hT0⟩ HRD1.out).mono ?done
    case done =>
      rintro e2 W2 ⟨hret, ⟨acc, xs, htk, hgood, ⟨v, hv⟩, hrd⟩ | ⟨acc, xs, er, her, htk, ⟨v, hv⟩, hrd⟩ | ⟨htk, hl2, x0, x1, x2, hd2, hb2⟩⟩
      · have hO3 := Only.putObj W2 (w6.heap.size + 2 + 1) (.loop (rec .exhausted none))
        refine ⟨hret, .inl ⟨hv.only.at GL.out (by omega), ?_⟩⟩
        have y0 := hO3.at (hv.only.at G0.out (by omega)) (by omega)
        have y1 := hO3.at (hv.only.at G1.out (by omega)) (by omega)
        have y2 := hO3.at (hv.only.at G2.out (by omega)) (by omega)
        have y7 := hO3.at hv.c7 (by omega)
        have hd3 := hO3.at (hv.only.at GD.out (by omega)) (by omega)
        have hrd3 := hrd.only hO3 (fun i h1 h2 => by omega)
        have hb1w : Below w.heap.size w W2 := HB1.out.trans (hv.only.below HB1.out.size (fun i hi => by omega))
        have hb3 : Below w.heap.size w (W2.putObj (w6.heap.size + 2 + 1) (.loop (rec .exhausted none))) := hb1w.trans (hO3.below hb1w.size (fun i hi => by omega))
        have hown3 := own3_only hv.own hO3 (fun i hi h => by have := (own3_lt hv.own hi).1; omega)
        obtain ⟨A', c', rfl, -⟩ := own3_slice hv.own
        have htl := tk_ok q [] bs HY.out good_nil (by rw [htk])
        rw [htk] at htl
        have hlq : acc.length = q := by simpa using htl.2.1
        have HEQ := Lib.hid htk
        have HGD := Lib.hid hgood
        have HLQ := Lib.hid hlq
        clear hO3 hv hrd htl htk hgood hret hrec hb1w hlq
        generalize W2.putObj (w6.heap.size + 2 + 1) (.loop (rec .exhausted none)) = W3 at y0 y1 y2 y7 hd3 hrd3 hb3 hown3 ⊢
        have Y0 := Lib.hid y0
        have Y1 := Lib.hid y1
        have Y2 := Lib.hid y2
        have Y7 := Lib.hid y7
        have HD3 := Lib.hid hd3
        have HRD3 := Lib.hid hrd3
        have HB3 := Lib.hid hb3
        have HO3 := Lib.hid hown3
        have m0 : W3.cell? ⟨w.heap.size + 1 + 1 + 1, 0, none⟩ = some (.slice A' acc.length c') := cell_of_blk y7 rfl
        clear y0 y1 y2 y7 hd3 hrd3 hb3 hown3
        gi_wp2_with fail
        refine ⟨trivial, ?_⟩
        refine (callsIn_wide.2 (errorR g _ _ _ HRD3.out.rdr)).mono ?_
        rintro e8 w8 ⟨rfl, rfl⟩
        gi_wp2_with fail
        refine wpIn_wide.2 ?_
        have HWR : Hid (∀ wx, Below W3.heap.size W3 wx → Calls Try.prog 41 #[.slice A' acc.length c'] wx fun e w' => ∃ v, e = .returned v ∧ w'.ownsRow wx.heap.size 5 1 v (enc acc).length ((enc acc).map (Value.int .u8)) ∧ Below wx.heap.size wx w') :=
          fun wx hx => written_any A' acc.length c' acc wx (((SRow.of_own HO3.out (fun s hs => may_ok (good_may HGD.out hs))).below hx).more hx.size) (fun s hs => good_may HGD.out hs) (by have := HLQ.out; omega)
        have keep : ∀ wx, Below W3.heap.size W3 wx → wx.cell? ⟨w.heap.size + 1 + 1 + 1, 0, none⟩ = some (.slice A' acc.length c') := fun wx hx => cell_of_blk ((hx.block _ (Array.getElem?_eq_some_iff.1 Y7.out).1).trans Y7.out) rfl
        have st : ∀ wx, Below W3.heap.size W3 wx → ∀ v, (wx.cell? ⟨w.heap.size, 0, none⟩ = some (.slice none 0 0) ∧ wx.frozen? ⟨w.heap.size, 0, none⟩ = false) ∧ ((wx.setCell ⟨w.heap.size, 0, none⟩ (.slice A' acc.length c')).cell? ⟨w.heap.size + 1, 0, none⟩ = some (.int .i64 0) ∧ (wx.setCell ⟨w.heap.size, 0, none⟩ (.slice A' acc.length c')).frozen? ⟨w.heap.size + 1, 0, none⟩ = false) ∧
            (((wx.setCell ⟨w.heap.size, 0, none⟩ (.slice A' acc.length c')).setCell ⟨w.heap.size + 1, 0, none⟩ v).cell? ⟨w.heap.size + 1 + 1, 0, none⟩ = some (.int .i64 0) ∧ ((wx.setCell ⟨w.heap.size, 0, none⟩ (.slice A' acc.length c')).setCell ⟨w.heap.size + 1, 0, none⟩ v).frozen? ⟨w.heap.size + 1 + 1, 0, none⟩ = false) ∧
            (wx.setCell ⟨w.heap.size, 0, none⟩ (.slice A' acc.length c')).cell? ⟨w.heap.size + 1 + 1 + 1, 0, none⟩ = some (.slice A' acc.length c') ∧ ((wx.setCell ⟨w.heap.size, 0, none⟩ (.slice A' acc.length c')).setCell ⟨w.heap.size + 1, 0, none⟩ v).cell? ⟨w.heap.size + 1 + 1 + 1, 0, none⟩ = some (.slice A' acc.length c') ∧
            (((wx.setCell ⟨w.heap.size, 0, none⟩ (.slice A' acc.length c')).setCell ⟨w.heap.size + 1, 0, none⟩ v).setCell ⟨w.heap.size + 1 + 1, 0, none⟩ (.int .i64 0)).cell? ⟨w.heap.size + 1 + 1 + 1, 0, none⟩ = some (.slice A' acc.length c') := by
          intro wx hx v
          have x0 := (hx.block _ (Array.getElem?_eq_some_iff.1 Y0.out).1).trans Y0.out
          have x1 := (hx.block _ (Array.getElem?_eq_some_iff.1 Y1.out).1).trans Y1.out
          have x2 := (hx.block _ (Array.getElem?_eq_some_iff.1 Y2.out).1).trans Y2.out
          have x7 := (hx.block _ (Array.getElem?_eq_some_iff.1 Y7.out).1).trans Y7.out
          obtain ⟨p0, p1, p2, -⟩ := stores3 (.slice A' acc.length c') v (.int .i64 0) x0 x1 x2 (by omega) (by omega) (by omega)
          have n1 := (Only.setCell wx ⟨w.heap.size, 0, none⟩ (.slice A' acc.length c')).at x7 (by show ¬ _ = w.heap.size; omega)
          have n2 := (Only.setCell _ ⟨w.heap.size + 1, 0, none⟩ v).at n1 (by show ¬ _ = w.heap.size + 1; omega)
          have n3 := (Only.setCell _ ⟨w.heap.size + 1 + 1, 0, none⟩ (.int .i64 0)).at n2 (by show ¬ _ = w.heap.size + 1 + 1; omega)
          exact ⟨p0, p1, p2, cell_of_blk n1 rfl, cell_of_blk n2 rfl, cell_of_blk n3 rfl⟩
        have HST := Lib.hid st
        have HKEEP := Lib.hid keep
        have md : W3.drew.cell? ⟨w.heap.size + 1 + 1 + 1, 0, none⟩ = some (.slice A' acc.length c') := m0
        have HW16 := Lib.hid (HWR.out W3.drew ((Below.refl _ _).drew))
        clear keep st HWR
        refine wp_norm fun C hCC => ?_
        go_region_held3  (fun wx => wx.cell? ⟨w.heap.size + 1 + 1 + 1, 0, none⟩ = some (.slice A' acc.length c')) (first | exact md | exact m1 | exact n1 | exact n2 | exact n3) (first
          | (go_at_call 41; refine HW16.out.mono ?_; rintro e9 w9 ⟨v9, rfl, hown9, hb9⟩; obtain ⟨A9, c9, rfl, -⟩ := own_nil hown9; have HB9 := Lib.hid (((Below.refl W3.heap.size W3).drew).trans hb9); have m1 := HKEEP.out _ HB9.out; obtain ⟨⟨p0, p1⟩, ⟨p2, p3⟩, ⟨p4, p5⟩, n1, n2, n3⟩ := HST.out _ HB9.out (.int .i64 ((enc acc).length : Int)); clear hown9 hb9))
        refine hCC _ _ ?_
        have x0 := (HB9.out.block _ (Array.getElem?_eq_some_iff.1 Y0.out).1).trans Y0.out
        have x1 := (HB9.out.block _ (Array.getElem?_eq_some_iff.1 Y1.out).1).trans Y1.out
        have x2 := (HB9.out.block _ (Array.getElem?_eq_some_iff.1 Y2.out).1).trans Y2.out
        have xd := (HB9.out.block _ (Array.getElem?_eq_some_iff.1 HD3.out).1).trans HD3.out
        obtain ⟨-, -, -, z0, z1, z2, hOs⟩ := stores3 (.slice A' acc.length c') (.int .i64 ((enc acc).length : Int)) (.int .i64 0) x0 x1 x2 (by omega) (by omega) (by omega)
        have hd4 := hOs.at xd (by omega)
        have hown9 : w9.ownsRow W1.heap.size 38 3 (.slice A' acc.length c') acc.length (flat acc) := own3_only HO3.out (M := fun _ => False) (Only.of_below HB9.out) (fun _ _ h => h)
        have hown4 := own3_only hown9 hOs (fun i hi h => by have := (own3_lt hown9 hi).1; omega)
        have hb9w := HB3.out.trans (HB9.out.mono HB3.out.size)
        have hb4 := hb9w.trans (hOs.below hb9w.size (fun i hi => by omega))
        have HD4 := Lib.hid hd4
        have HO4 := Lib.hid hown4
        have HB4 := Lib.hid hb4
        have Z0 := Lib.hid z0
        have Z1 := Lib.hid z1
        have Z2 := Lib.hid z2
        clear x0 x1 x2 xd z0 z1 z2 hOs hd4 hown9 hown4 hb9w hb4 p0 p1 p2 p3 p4 p5 n1 n2 n3 m1 m0 md
        gi_wp2
        refine ⟨by simp, .inl ⟨_, _, rfl, run_takeDeferred HD4.out, ?_⟩⟩
        have hO5 := Only.putObj (((w9.setCell ⟨w.heap.size, 0, none⟩ (.slice A' acc.length c')).setCell ⟨w.heap.size + 1, 0, none⟩ (.int .i64 ((enc acc).length : Int))).setCell ⟨w.heap.size + 1 + 1, 0, none⟩ (.int .i64 0)) (w6.heap.size + 2) (.deferred none)
        have e1 : tkE bs (q : Int) = 0 := HEE.out.trans (by rw [HEQ.out])
        have e2 : tkL bs (q : Int) = acc := by unfold tkL; rw [if_pos e1, Int.toNat_natCast, HEQ.out]
        have e3 : tkN bs (q : Int) = (enc acc).length := by unfold tkN; rw [if_pos e1, Int.toNat_natCast, HEQ.out]
        refine ⟨_, results_cells3 rfl _ _ rfl rfl rfl (load_slice (cell_of_blk (hO5.at Z0.out (by omega)) rfl)) (load_int (cell_of_blk (hO5.at Z1.out (by omega)) rfl)) (load_errno (v := .int .i64 0) (cell_of_blk (hO5.at Z2.out (by omega)) rfl)), ?_⟩
        refine ⟨.slice A' acc.length c', by rw [e1, e3]; rfl, ?_, HB4.out.trans (hO5.below HB4.out.size (fun i hi => by omega))⟩
        rw [e2]
        exact own3_base (own3_only HO4.out hO5 (fun i hi h => by have := (own3_lt HO4.out hi).1; omega)) HB1.out.size
      · have hO3 := Only.putObj W2 (w6.heap.size + 2 + 1) (.loop (rec .exhausted none))
        refine ⟨hret, .inl ⟨hv.only.at GL.out (by omega), ?_⟩⟩
        have y0 := hO3.at (hv.only.at G0.out (by omega)) (by omega)
        have y1 := hO3.at (hv.only.at G1.out (by omega)) (by omega)
        have y2 := hO3.at (hv.only.at G2.out (by omega)) (by omega)
        have hd3 := hO3.at (hv.only.at GD.out (by omega)) (by omega)
        have hrd3 := hrd.only hO3 (fun i h1 h2 => by omega)
        have hb3 : Below w.heap.size w (W2.putObj (w6.heap.size + 2 + 1) (.loop (rec .exhausted none))) := (HB1.out.trans (hv.only.below HB1.out.size (fun i hi => by omega))).trans (hO3.below (Nat.le_trans HB1.out.size hv.only.size) (fun i hi => by omega))
        generalize W2.putObj (w6.heap.size + 2 + 1) (.loop (rec .exhausted none)) = W3 at y0 y1 y2 hd3 hrd3 hb3 ⊢
        obtain ⟨⟨p0, p1⟩, ⟨p2, p3⟩, ⟨p4, p5⟩, z0, z1, z2, hOs⟩ := stores3 (.slice none 0 0) (.int .i64 0) (.int .i64 (er : Int)) y0 y1 y2 (by omega) (by omega) (by omega)
        have hd4 := hOs.at hd3 (by omega)
        have hb4 := hb3.trans (hOs.below hb3.size (fun i hi => by omega))
        have Z0 := Lib.hid z0
        have Z1 := Lib.hid z1
        have Z2 := Lib.hid z2
        have HD4 := Lib.hid hd4
        have HB4 := Lib.hid hb4
        have HRD3 := Lib.hid hrd3
        have HE := Lib.hid (HEE.out.trans htk)
        have HER := Lib.hid her
        have hne : ((er : Int) == 0) = false := beq_eq_false_iff_ne.2 (by omega)
        clear hO3 hv hrd hrd3 hd3 hb3 z0 z1 z2 hOs hd4 hb4 htk her hret hrec y0 y1 y2
        gi_wp2_with fail
        refine ⟨trivial, ?_⟩
        refine (callsIn_wide.2 (errorR g _ _ _ HRD3.out.rdr)).mono ?_
        rintro e8 w8 ⟨rfl, rfl⟩
        gi_wp2
        refine ⟨by simp, .inl ⟨_, _, rfl, run_takeDeferred HD4.out, ?_⟩⟩
        have hO5 := Only.putObj (((W3.setCell ⟨w.heap.size, 0, none⟩ (.slice none 0 0)).setCell ⟨w.heap.size + 1, 0, none⟩ (.int .i64 0)).setCell ⟨w.heap.size + 1 + 1, 0, none⟩ (.int .i64 (er : Int))) (w6.heap.size + 2) (.deferred none)
        exact ⟨_, results_cells3 rfl _ _ rfl rfl rfl (load_slice (cell_of_blk (hO5.at Z0.out (by omega)) rfl)) (load_int (cell_of_blk (hO5.at Z1.out (by omega)) rfl)) (load_errno (cell_of_blk (hO5.at Z2.out (by omega)) rfl)), takeTo_no HE.out HER.out (HB4.out.trans (hO5.below HB4.out.size (fun i hi => by omega)))⟩
      · have hO3 := Only.putObj W2 (w6.heap.size + 2 + 1) (.loop (rec .exhausted (some .ret)))
        refine ⟨hret, .inr ⟨hl2, ?_⟩⟩
        have y0 := hO3.at x0 (by omega)
        have y1 := hO3.at x1 (by omega)
        have y2 := hO3.at x2 (by omega)
        have hd3 := hO3.at hd2 (by omega)
        have hb3 := hb2.trans (hO3.below hb2.size (fun i hi => by omega))
        clear hrec hO3 hl2
        generalize W2.putObj (w6.heap.size + 2 + 1) (.loop (rec .exhausted (some .ret))) = W3 at y0 y1 y2 hd3 hb3 ⊢
        gi_wp2
        refine ⟨by simp, .inl ⟨_, _, rfl, run_takeDeferred hd3, ?_⟩⟩
        have hO5 := Only.putObj W3 (w6.heap.size + 2) (.deferred none)
        refine ⟨_, results_cells3 rfl _ _ rfl rfl rfl (load_slice (cell_of_blk (hO5.at y0 (by omega)) rfl)) (load_int (cell_of_blk (hO5.at y1 (by omega)) rfl)) (load_errno (v := .int .i64 2) (cell_of_blk (hO5.at y2 (by omega)) rfl)), ?_⟩
        exact takeTo_no (e := 2) (HEE.out.trans htk) (by omega) (hb3.trans (hO5.below hb3.size (fun i hi => by omega)))
    case round =>
      rintro acc xs W hlen hgood hbx her ⟨v, hv⟩ hrd
      obtain ⟨-, t1, t2, t3, t4, t5, t6⟩ := trip_ok hbx her
      have hla : 0 ≤ (las acc).t ∧ (las acc).t ≤ 1099511627776 ∧ 0 ≤ (las acc).x ∧ (las acc).x < 67108864 ∧ 0 ≤ (las acc).y ∧ (las acc).y < 67108864 := by
        rcases las_may (l := acc) (fun u hu => good_may hgood hu) with ha | ha
        · exact may_iff.1 ha
        · rw [ha]; unfold zS; simp
      obtain ⟨s, hs⟩ : ∃ s, nx acc xs = s := ⟨_, rfl⟩
      have w1 : IntKind.i64.wrap ((las acc).t + tT xs) = s.t := (IntWalk.i64_in _ ⟨by omega, by omega⟩).trans (by rw [← hs]; rfl)
      have w2 : IntKind.i64.wrap ((las acc).x + tX xs) = s.x := (IntWalk.i64_in _ ⟨by omega, by omega⟩).trans (by rw [← hs]; rfl)
      have w3 : IntKind.i64.wrap ((las acc).y + tY xs) = s.y := (IntWalk.i64_in _ ⟨by omega, by omega⟩).trans (by rw [← hs]; rfl)
      rw [hs]
      clear hla t1 t2 t3 t4 t5 t6
      refine round_on hrec (hv.only.at GL.out (by omega)) rfl ?_
      unfold tripV
      have HRD := Lib.hid hrd
      have HV := Lib.hid hv
      have HGD := Lib.hid hgood
      have hWs := hv.only.size
      obtain ⟨A', c', rfl, -⟩ := own3_slice hv.own
      have hvlt : ∀ i, (Value.slice A' acc.length c').ownBlock = some i → W1.heap.size ≤ i ∧ i < W.heap.size := fun i hi => own3_lt hv.own hi
      have HVLT := Lib.hid hvlt
      clear hrd hv hgood hvlt hT0 hrec hbx her
      gi_wp2
      refine ⟨alloc_old _ _ (HV.out.only.at GL.out (by omega)), ?_⟩
      have hP := Only.putObj (W.alloc (.cells #[.int .i64 (tT xs), .int .i64 (tX xs), .int .i64 (tY xs)] 91)) (w6.heap.size + 2 + 1) (.loop (rec .busy none))
      have hstp := hP.at (heap_alloc_new W (.cells #[.int .i64 (tT xs), .int .i64 (tX xs), .int .i64 (tY xs)] 91)) (by omega)
      have hbusy : ((W.alloc (.cells #[.int .i64 (tT xs), .int .i64 (tX xs), .int .i64 (tY xs)] 91)).putObj (w6.heap.size + 2 + 1) (.loop (rec .busy none))).heap[w6.heap.size + 2 + 1]? = some (.loop (rec .busy none)) := World.putObj_heap_same (by rw [World.size_alloc]; omega)
      have hC : Only (fun i => i = w.heap.size + 1 + 1 + 1 ∨ i = w.heap.size + 1 + 1 + 1 + 1 ∨ i = w6.heap.size + 2 + 1 ∨ (Value.slice A' acc.length c').ownBlock = some i) W ((W.alloc (.cells #[.int .i64 (tT xs), .int .i64 (tX xs), .int .i64 (tY xs)] 91)).putObj (w6.heap.size + 2 + 1) (.loop (rec .busy none))) := (Only.alloc W _).trans hP (fun i _ h => .inr (.inr (.inl h)))
      have hc7 := hP.at (alloc_old _ _ HV.out.c7) (by omega)
      have hc8 := hP.at (alloc_old _ _ HV.out.c8) (by omega)
      have hown := own3_only (own3_only HV.out.own (Only.alloc (M := fun _ => False) W (.cells #[.int .i64 (tT xs), .int .i64 (tX xs), .int .i64 (tY xs)] 91)) (fun _ _ h => h)) hP (fun i hi h => by have := (HVLT.out i hi).1; omega)
      have HSTP := Lib.hid hstp
      have HBUSY := Lib.hid hbusy
      have HCC := Lib.hid hC
      have HC7 := Lib.hid hc7
      have HC8 := Lib.hid hc8
      have HOWN := Lib.hid hown
      have hszb : W.heap.size < ((W.alloc (.cells #[.int .i64 (tT xs), .int .i64 (tX xs), .int .i64 (tY xs)] 91)).putObj (w6.heap.size + 2 + 1) (.loop (rec .busy none))).heap.size := by simp
      clear hP hstp hbusy hC hc7 hc8 hown
      generalize (W.alloc (.cells #[.int .i64 (tT xs), .int .i64 (tX xs), .int .i64 (tY xs)] 91)).putObj (w6.heap.size + 2 + 1) (.loop (rec .busy none)) = Wb at HSTP HBUSY HCC HC7 HC8 HOWN hszb ⊢
      have s0 := cell_of_blk (j := 0) HSTP.out rfl
      have s1 := cell_of_blk (j := 1) HSTP.out rfl
      have s2 := cell_of_blk (j := 2) HSTP.out rfl
      obtain ⟨⟨y0, y1, y2⟩, f0, f1, f2⟩ := three HC8.out
      obtain ⟨⟨g1, e1⟩, ⟨g2, e2⟩, hq, hO⟩ := sets (s := s) HC8.out
      have hc7' := hO.at HC7.out (by omega)
      have k7 := cell_of_blk (j := 0) hc7' rfl
      obtain ⟨⟨z0, z1, z2⟩, -⟩ := three hq
      have hown' := own3_only HOWN.out hO (fun i hi h => by have := (HVLT.out i hi).1; omega)
      have HC8' := Lib.hid hq
      have HC7' := Lib.hid hc7'
      have HOWN' := Lib.hid hown'
      have HBUSY' := Lib.hid (hO.at HBUSY.out (by omega))
      have HCC' := Lib.hid (HCC.out.trans hO (fun i _ h => .inr (.inl h)))
      have hszc := hO.size
      have HF : Hid (Calls Try.prog 40 #[.slice A' acc.length c', .agg #[.int .i64 s.t, .int .i64 s.x, .int .i64 s.y]] (((Wb.setCell ⟨w.heap.size + 1 + 1 + 1 + 1, 0, none⟩ (.int .i64 s.t)).setCell ⟨w.heap.size + 1 + 1 + 1 + 1, 1, none⟩ (.int .i64 s.x)).setCell ⟨w.heap.size + 1 + 1 + 1 + 1, 2, none⟩ (.int .i64 s.y)) fun e w' => e = .returned (.bool (okp acc s)) ∧ Below (((Wb.setCell ⟨w.heap.size + 1 + 1 + 1 + 1, 0, none⟩ (.int .i64 s.t)).setCell ⟨w.heap.size + 1 + 1 + 1 + 1, 1, none⟩ (.int .i64 s.x)).setCell ⟨w.heap.size + 1 + 1 + 1 + 1, 2, none⟩ (.int .i64 s.y)).heap.size (((Wb.setCell ⟨w.heap.size + 1 + 1 + 1 + 1, 0, none⟩ (.int .i64 s.t)).setCell ⟨w.heap.size + 1 + 1 + 1 + 1, 1, none⟩ (.int .i64 s.x)).setCell ⟨w.heap.size + 1 + 1 + 1 + 1, 2, none⟩ (.int .i64 s.y)) w') :=
        follows_any A' acc.length c' acc s _ (SRow.of_own HOWN'.out (fun u hu => may_ok (good_may HGD.out hu))) (by omega)
      clear hq hO hc7' hown'
      gi_wp2_with fail
      refine ⟨trivial, ?_⟩
      refine (CallsIn.inRound _ (callsIn_wide.2 HF.out)).mono ?_
      rintro e9 w9 ⟨rfl, hb9⟩
      have D7 := Lib.hid ((hb9.block _ (Array.getElem?_eq_some_iff.1 HC7'.out).1).trans HC7'.out)
      have D8 := Lib.hid ((hb9.block _ (Array.getElem?_eq_some_iff.1 HC8'.out).1).trans HC8'.out)
      have DB := Lib.hid ((hb9.block _ (Array.getElem?_eq_some_iff.1 HBUSY'.out).1).trans HBUSY'.out)
      have DO := Lib.hid (own3_only HOWN'.out (M := fun _ => False) (Only.of_below hb9) (fun _ _ h => h))
      have DC := Lib.hid (HCC'.out.trans (M' := fun _ => False) (Only.of_below hb9) (fun _ _ h => h.elim))
      have hsz9 := hb9.size
      have hW9 : W.heap.size < w9.heap.size := by omega
      clear hb9 HC7' HC8' HBUSY' HOWN' HCC' HC7 HC8 HBUSY HOWN HCC HF HSTP s0 s1 s2 y0 y1 y2 f0 f1 f2 g1 e1 g2 e2 k7 z0 z1 z2 hsz9 hszc hszb
      have m7 : w9.cell? ⟨w.heap.size + 1 + 1 + 1, 0, none⟩ = some (.slice A' acc.length c') := cell_of_blk D7.out rfl
      obtain ⟨⟨m0, m1, m2⟩, -⟩ := three D8.out
      cases hokp : okp acc s with
      | true =>
        obtain ⟨i0, hi, hz0, hz1, hz2⟩ := info_parts info_smp
        have hDO1 : (w9.alloc (.cells #[.int .i64 s.t, .int .i64 s.x, .int .i64 s.y] 38)).ownsRow W1.heap.size 38 3 (.slice A' acc.length c') acc.length (flat acc) := own3_only DO.out (Only.alloc (M := fun _ => False) w9 _) (fun _ _ h => h)
        have HDO1 := Lib.hid hDO1
        have HD71 := Lib.hid (alloc_old w9 (.cells #[.int .i64 s.t, .int .i64 s.x, .int .i64 s.y] 38) D7.out)
        have HNEW := Lib.hid (new3 w9 s 38)
        clear hDO1
        gi_wp2_with (gi_at_builtin; refine wpListIn_append_own _ rfl (.tmp 44) (.tmp 46) 22 rfl W1.heap.size 38 i0 (.agg #[.int .i64 0, .int .i64 0, .int .i64 0]) 3 24 Try.underlying22 hi hz0 hz1 hz2 rfl (by decide) _ acc.length (flat acc) rfl HDO1.out ⟨w9.heap.size, 0, none⟩ 1 1 [.int .i64 s.t, .int .i64 s.x, .int .i64 s.y] rfl rfl HNEW.out (by intro u hu; simp at hu; rcases hu with rfl | rfl | rfl <;> rfl) (by unfold maxLen; omega) (by omega) (by simp; omega) ?_; intro v1 wA hown1 hgrow _; obtain ⟨A1, c1, rfl, -⟩ := own3_slice hown1; have hA7 := (Only.of_grown hgrow).at HD71.out (fun h => by have := (HVLT.out _ h).1; omega); have n7 : wA.cell? ⟨w.heap.size + 1 + 1 + 1, 0, none⟩ = some (.slice A' acc.length c') := cell_of_blk hA7 rfl; have n8 : wA.frozen? ⟨w.heap.size + 1 + 1 + 1, 0, none⟩ = false := free_of_blk hA7; have HA7 := Lib.hid hA7; have HO1 := Lib.hid hown1; have HGR := Lib.hid hgrow; clear hA7 hown1 hgrow)
        have oA := Only.of_grown HGR.out
        have oS := Only.setCell wA ⟨w.heap.size + 1 + 1 + 1, 0, none⟩ (.slice A1 (acc.length + 1) c1)
        have oP := Only.putObj (wA.setCell ⟨w.heap.size + 1 + 1 + 1, 0, none⟩ (.slice A1 (acc.length + 1) c1)) (w6.heap.size + 2 + 1) (.loop (rec .ready none))
        have oT := (((DC.out.trans (Only.alloc (M := fun _ => False) w9 (.cells #[.int .i64 s.t, .int .i64 s.x, .int .i64 s.y] 38)) (fun _ _ h => h.elim)).trans oA (fun i _ h => .inr (.inr (.inr h)))).trans oS (fun i _ h => .inl h)).trans oP (fun i _ h => .inr (.inr (.inl h)))
        have hbX := oS.at (oA.at (alloc_old w9 (.cells #[.int .i64 s.t, .int .i64 s.x, .int .i64 s.y] 38) DB.out) (fun h => by have := (HVLT.out _ h).1; omega)) (by show ¬ _ = w.heap.size + 1 + 1 + 1; omega)
        have hlr : ((wA.setCell ⟨w.heap.size + 1 + 1 + 1, 0, none⟩ (.slice A1 (acc.length + 1) c1)).putObj (w6.heap.size + 2 + 1) (.loop (rec .ready none))).heap[w6.heap.size + 2 + 1]? = some (.loop (rec .ready none)) := World.putObj_heap_same (Array.getElem?_eq_some_iff.1 hbX).1
        refine ⟨hbX, .inl ⟨rfl, hokp, ⟨.slice A1 (acc.length + 1) c1, ⟨?_, ?_, ?_, ?_⟩⟩, HRD.out.only oT ?_⟩⟩
        · refine Only.fix (l := w6.heap.size + 2 + 1) ((HV.out.only.mono (fun i h => Or.inl h)).trans oT ?_) (hlr.trans GL.out.symm)
          rintro i hi (h | h | h | h)
          · exact .inl (.inl h)
          · exact .inl (.inr (.inl h))
          · exact .inr h
          · have := (HVLT.out i h).1; omega
        · exact oP.at (set_blk (j := 0) HA7.out) (by omega)
        · rw [las_snoc]
          exact oP.at (oS.at (oA.at (alloc_old w9 (.cells #[.int .i64 s.t, .int .i64 s.x, .int .i64 s.y] 38) D8.out) (fun h => by have := (HVLT.out _ h).1; omega)) (by show ¬ _ = w.heap.size + 1 + 1 + 1; omega)) (by omega)
        · have h1 := own3_only (own3_only HO1.out oS (fun i hi h => by have := (own3_lt HO1.out hi).1; have h : i = w.heap.size + 1 + 1 + 1 := h; omega)) oP (fun i hi h => by have := (own3_lt HO1.out hi).1; omega)
          rw [flat_snoc, List.length_append]
          exact h1
        · rintro i h1 h2 (h | h | h | h)
          · omega
          · omega
          · omega
          · have := (HVLT.out i h).1; omega
      | false =>
        have x0 := DC.out.at (HV.out.only.at G0.out (by omega)) (fun h => by rcases h with h | h | h | h <;> first | omega | (have := (HVLT.out _ h).1; omega))
        have x1 := DC.out.at (HV.out.only.at G1.out (by omega)) (fun h => by rcases h with h | h | h | h <;> first | omega | (have := (HVLT.out _ h).1; omega))
        have x2 := DC.out.at (HV.out.only.at G2.out (by omega)) (fun h => by rcases h with h | h | h | h <;> first | omega | (have := (HVLT.out _ h).1; omega))
        have xd := DC.out.at (HV.out.only.at GD.out (by omega)) (fun h => by rcases h with h | h | h | h <;> first | omega | (have := (HVLT.out _ h).1; omega))
        obtain ⟨⟨p0, p1⟩, ⟨p2, p3⟩, ⟨p4, p5⟩, z0, z1, z2, hOs⟩ := stores3 (.slice none 0 0) (.int .i64 0) (.int .i64 2) x0 x1 x2 (by omega) (by omega) (by omega)
        have hbx := hOs.at DB.out (by omega)
        have hdx := hOs.at xd (by omega)
        have hbw : Below w.heap.size w W := HB1.out.trans (HV.out.only.below HB1.out.size (fun i hi => by omega))
        have hb9 : Below w.heap.size w w9 := hbw.trans (DC.out.below hbw.size (fun i hi => by rcases hi with h | h | h | h <;> first | omega | (have := (HVLT.out _ h).1; omega)))
        have hbz := hb9.trans (hOs.below hb9.size (fun i hi => by omega))
        have oP := Only.putObj (((w9.setCell ⟨w.heap.size, 0, none⟩ (.slice none 0 0)).setCell ⟨w.heap.size + 1, 0, none⟩ (.int .i64 0)).setCell ⟨w.heap.size + 1 + 1, 0, none⟩ (.int .i64 2)) (w6.heap.size + 2 + 1) (.loop (rec .done (some .ret)))
        have OP := Lib.hid oP
        have Z0 := Lib.hid z0
        have Z1 := Lib.hid z1
        have Z2 := Lib.hid z2
        have HBX := Lib.hid hbx
        have HDX := Lib.hid hdx
        have HBZ := Lib.hid hbz
        clear x0 x1 x2 xd z0 z1 z2 hOs hbx hdx hbw hb9 hbz oP
        gi_wp2
        exact ⟨HBX.out, .inr ⟨rfl, hokp, World.putObj_heap_same (Array.getElem?_eq_some_iff.1 HBX.out).1, OP.out.at Z0.out (by omega), OP.out.at Z1.out (by omega), OP.out.at Z2.out (by omega), OP.out.at HDX.out (by omega), HBZ.out.trans (OP.out.below HBZ.out.size (fun i hi => by omega))⟩⟩
end Go.Proofs.Ytmpihllcmdgapaa.Smp

/- Layer 6 (trace): Take, as a contract. -/
namespace Go.Proofs.Ytmpihllcmdgapaa.Trc
open Go.RowKit Var Fld Smp Frm Crc Slc

/-- What Take leaves. -/
def TakeTo (bs : List Int) (w : World) (e : Ending) (w' : World) : Prop :=
  ∃ v, e = .returned (.tuple #[v, .int .i64 ((trT bs).2 : Int)]) ∧ w'.ownsRow w.heap.size 38 3 v (trT bs).1.length (flat (trT bs).1) ∧ Below w.heap.size w w'

theorem takeTo_no {bs : List Int} {w w' : World} {k : Nat} (he : trT bs = ([], k)) (hb : Below w.heap.size w w') : TakeTo bs w (.returned (.tuple #[.slice none 0 0, .int .i64 (k : Int)])) w' := by
  unfold TakeTo
  rw [he]
  exact ⟨_, rfl, World.ownsRow_nil _ _ _ _, hb⟩

/-- The number ahead of the samples: its bytes, what is behind. -/
theorem first_num {c : List Int} {x : Int} {sz : Nat} (hb : Byt c) (h : nxt c 2048 = (x, sz, 0)) : 0 ≤ x ∧ x ≤ 2048 ∧ 0 < sz ∧ sz ≤ c.length ∧ (num x).length = sz := by
  have h1 := nxt_is (xs := c) (most := 2048) hb (by rw [h])
  have h2 := nxt_ok (xs := c) (most := 2048) hb (by rw [h])
  rw [h] at h1 h2
  simp only at h1 h2
  have hl := congrArg List.length h1.1
  rw [List.length_append, List.length_drop] at hl
  exact ⟨h1.2.1, h1.2.2, h2.1, h2.2.1, by omega⟩

set_option maxHeartbeats 1600000 in
set_option maxRecDepth 100000 in
theorem take_any (A : Option Addr) (n c : Nat) (bs : List Int) (w : World) (h : Row .u8 w w.heap.size A n bs) (hnil : A = none → c = 0) (hnc : n ≤ c) (hn : n ≤ 4398046511104) (hc : c ≤ maxLen) (hbyt : ∀ x ∈ bs, 0 ≤ x ∧ x ≤ 255) :
    Calls Try.prog 9 #[.slice A n c] w (TakeTo bs w) := by
  have HW := Lib.hid (whole_any 1 A n c bs w h hnil hbyt hn hnc hc)
  have hwl : (wholly 1 bs).1.length ≤ 1048576 := wholly_len 1 bs
  have HWB : Hid (Byt (wholly 1 bs).1) := wholly_byt hbyt
  obtain ⟨cs, er, HK⟩ : ∃ cs er, Hid (wholly 1 bs = (cs, er)) := ⟨_, _, Lib.hid rfl⟩
  have HT : Hid (trT bs = if er ≠ 0 then ([], er) else inner cs) := by unfold Hid trT; rw [HK.out]
  rw [HK.out] at HW HWB hwl
  clear h hnil hn hc hnc hbyt
  go_enter Try.func9, Try.ntmps9
  go_wp2_with fail
  refine HW.out.mono ?_
  rintro e1 w1 ⟨v1, rfl, hown1, hb1⟩
  simp only at hown1 hwl HWB
  have HB1 := Lib.hid hb1
  obtain ⟨A1, c1, rfl, hnc1, hnil1⟩ := own_slice hown1
  have HO1 := Lib.hid hown1
  have HI1 := Lib.hid hnil1
  have HC1 := Lib.hid hnc1
  clear hown1 hb1 HW hnil1 hnc1 HK
  by_cases he : er = 0
  case neg =>
    have hb1 : ((er : Int) == 0) = false := beq_eq_false_iff_ne.2 (by omega)
    have hb2 : ((er : Int) != 0) = true := by rw [bne, hb1]; rfl
    have HT' := Lib.hid (HT.out.trans (if_pos he))
    clear he HT
    go_wp2
    go_ret2
    exact takeTo_no HT'.out HB1.out
  case pos =>
    subst he
    have HT' := Lib.hid (HT.out.trans (if_neg (by simp)))
    clear HT
    obtain ⟨N, hN⟩ : ∃ N, cs.length = N := ⟨_, rfl⟩
    rw [hN] at hwl HO1 HC1 ⊢
    have HNN := Lib.hid hN
    clear hN
    go_wp2_with fail
    refine (readL A1 N c1 w1.heap.size cs w1 (Row.of_own HO1.out) (Nat.le_refl _) HI1.out (by omega) HWB.out).mono ?_
    rintro e2 w2 ⟨g, rfl, hrd2, hb2⟩
    have HR2 := Lib.hid hrd2
    have HB2 := Lib.hid hb2
    clear hrd2 hb2
    go_wp2_with fail
    refine (numberL g w1.heap.size 0 cs 2048 w2 HR2.out (by omega) (by omega)).mono ?_
    rintro e3 w3 ⟨rfl, hrd3, ho3⟩
    have HR3 := Lib.hid hrd3
    have HB3 := Lib.hid (HB2.out.trans (ho3.below HB2.out.size (fun i hi => by have := HR2.out.low; omega)))
    clear hrd3 ho3 HR2 HB2
    obtain ⟨x, sz, en, HX⟩ : ∃ x sz en, Hid (nxt cs 2048 = (x, sz, en)) := ⟨_, _, _, Lib.hid rfl⟩
    rw [HX.out] at HR3 ⊢
    by_cases hen : en = 0
    case neg =>
      have hv : val 0 (x, sz, en) = 0 := by unfold val; rw [if_pos (.inr hen)]
      have ha : after cs 0 sz en = (cs, en) := after_er hen
      have hb1 : ((en : Int) == 0) = false := beq_eq_false_iff_ne.2 (by omega)
      have hb2 : ((en : Int) != 0) = true := by rw [bne, hb1]; rfl
      have hin : inner cs = ([], en) := by unfold inner; rw [HX.out]; exact if_pos hen
      have HT2 := Lib.hid (HT'.out.trans hin)
      rw [hv]
      simp only at HR3
      rw [ha] at HR3
      clear hen hv ha hin HT'
      go_wp2_with fail
      refine (errorR g _ _ _ HR3.out.rdr).mono ?_
      rintro e4 w4 ⟨rfl, rfl⟩
      go_wp2
      go_ret2
      exact takeTo_no HT2.out (HB1.out.trans (HB3.out.mono HB1.out.size))
    case pos =>
      subst hen
      obtain ⟨x1, x2, x3, x4, x5⟩ := first_num HWB.out HX.out
      have hv : val 0 (x, sz, 0) = x := by unfold val; simp
      have ha : after cs 0 sz 0 = (cs.drop sz, 0) := after_ok
      have hin : inner cs = if tkE (cs.drop sz) x ≠ 0 then ([], tkE (cs.drop sz) x) else if tkN (cs.drop sz) x < (cs.drop sz).length then ([], 13) else (tkL (cs.drop sz) x, 0) := by unfold inner; rw [HX.out]; exact if_neg (by simp)
      have HT2 := Lib.hid (HT'.out.trans hin)
      rw [hv]
      simp only at HR3
      rw [ha] at HR3
      rw [HNN.out] at x4
      have HX5 := Lib.hid x5
      clear hv ha hin HT' HX x5
      go_wp2_with fail
      refine (errorR g _ _ _ HR3.out.rdr).mono ?_
      rintro e4 w4 ⟨rfl, rfl⟩
      clear HR3
      go_wp2_with fail
      refine (counted_any x (by omega) w3).mono ?_
      rintro e5 w5 ⟨v5, rfl, hown5, hb5⟩
      rw [HX5.out] at hown5
      obtain ⟨A5, c5, rfl, -⟩ := own_nil hown5
      have HB5 := Lib.hid (HB3.out.trans (hb5.mono HB3.out.size))
      clear hown5 hb5 HB3
      obtain ⟨g1, rfl, -⟩ := own_at HO1.out (show 0 < N by omega)
      have hl := HC1.out
      have hrow : Row .u8 w5 w5.heap.size (some ⟨g1, 0 + sz, none⟩) (N - sz) (cs.drop sz) := by
        have h1 := ((Row.of_own HO1.out).below HB5.out).more HB5.out.size
        have h2 := row_sub h1 (lo := sz) (m := N - sz) (by omega)
        rwa [List.take_of_length_le (by rw [List.length_drop, HNN.out]; exact Nat.le_refl _)] at h2
      rw [Nat.zero_add] at hrow
      have hby : ∀ x ∈ cs.drop sz, 0 ≤ x ∧ x ≤ 255 := fun y hy => HWB.out y (List.mem_of_mem_drop hy)
      have hdl : (cs.drop sz).length = N - sz := hrow.len
      have P : Calls Try.prog 30 #[if c1 = sz then .slice (some ⟨g1, 0, none⟩) (N - sz) 0 else .slice (some ⟨g1, sz, none⟩) (N - sz) (c1 - sz), .int .i64 x] w5 (Smp.TakeTo (cs.drop sz) x w5) := by
        by_cases hcs : c1 = sz
        · rw [if_pos hcs]
          exact Smp.take_any (some ⟨g1, 0, none⟩) (N - sz) 0 (cs.drop sz) x w5 ⟨hdl, fun h => absurd h (by omega)⟩ (fun h => nomatch h) (by omega) hby
        · rw [if_neg hcs]
          exact Smp.take_any (some ⟨g1, sz, none⟩) (N - sz) (c1 - sz) (cs.drop sz) x w5 hrow (fun h => nomatch h) (by omega) hby
      unfold Smp.TakeTo at P
      rw [hdl] at HT2
      have HP := Lib.hid P
      generalize cs.drop sz = ds at HP HT2
      clear P hrow hby hdl HWB HO1
      by_cases hcs : c1 = sz
      case' pos =>
        rw [if_pos hcs] at HP
        go_wp2_with fail
      case' neg =>
        rw [if_neg hcs] at HP
        go_wp2_with fail
      all_goals
        refine HP.out.mono ?_
        rintro e6 w6 ⟨v6, rfl, hown6, hb6⟩
        have HO6 := Lib.hid hown6
        have HB6 := Lib.hid (HB1.out.trans ((HB5.out.trans (hb6.mono HB5.out.size)).mono HB1.out.size))
        clear hown6 hb6 HP
        by_cases hte : tkE ds x = 0
        case' neg =>
          have hb1 : ((tkE ds x : Int) == 0) = false := beq_eq_false_iff_ne.2 (by omega)
          have hb2 : ((tkE ds x : Int) != 0) = true := by rw [bne, hb1]; rfl
          have HT3 := Lib.hid (HT2.out.trans (if_pos hte))
          clear hte HT2
          go_wp2
          go_ret2
          exact takeTo_no HT3.out HB6.out
        case' pos =>
          have HT3 := Lib.hid (HT2.out.trans (if_neg (by rw [hte]; simp)))
          rw [hte]
          clear hte HT2
          by_cases hlt : tkN ds x < N - sz
          case' pos =>
            have HT4 := Lib.hid (HT3.out.trans (if_pos hlt))
            have hlt' : (tkN ds x : Int) < ((N - sz : Nat) : Int) := by omega
            clear HT3
            go_wp2
            go_ret2
            exact takeTo_no HT4.out HB6.out
          case' neg =>
            have HT4 := Lib.hid (HT3.out.trans (if_neg hlt))
            have hlt' : ¬ (tkN ds x : Int) < ((N - sz : Nat) : Int) := by omega
            clear HT3
            go_wp2
            go_ret2
            unfold TakeTo
            rw [HT4.out]
            exact ⟨_, rfl, own3_base HO6.out (Nat.le_trans HB1.out.size HB5.out.size), HB6.out⟩
end Go.Proofs.Ytmpihllcmdgapaa.Trc

/- The reference's reader of layer 3, as contracts. -/
namespace Go.Proofs.Ytmpihllcmdgapaa.Fld
open Go.RowKit Var

/-- The reference's reader behind a pointer: all its bytes, how far it is, the first error. -/
structure Rf (w : World) (g : Nat) (A : Option Addr) (n c at_ e : Nat) : Prop where
  blk : w.heap[g]? = some (.cells #[.slice A n c, .int .i64 (at_ : Int), .int .i64 (e : Int)] 59 (0, 0))

section
variable {w w' : World} {g n c at_ e : Nat} {A : Option Addr}
theorem Rf.c0 (h : Rf w g A n c at_ e) : w.cell? ⟨g, 0, none⟩ = some (.slice A n c) := cell_of_blk h.blk rfl
theorem Rf.c1 (h : Rf w g A n c at_ e) : w.cell? ⟨g, 1, none⟩ = some (.int .i64 (at_ : Int)) := cell_of_blk h.blk rfl
theorem Rf.c2 (h : Rf w g A n c at_ e) : w.cell? ⟨g, 2, none⟩ = some (.int .i64 (e : Int)) := cell_of_blk h.blk rfl
theorem Rf.f1 (h : Rf w g A n c at_ e) : w.frozen? ⟨g, 1, none⟩ = false := free_of_blk h.blk
theorem Rf.f2 (h : Rf w g A n c at_ e) : w.frozen? ⟨g, 2, none⟩ = false := free_of_blk h.blk
theorem Rf.set1 (h : Rf w g A n c at_ e) (k : Nat) : Rf (w.setCell ⟨g, 1, none⟩ (.int .i64 (k : Int))) g A n c k e := ⟨set_blk h.blk⟩
theorem Rf.set2 (h : Rf w g A n c at_ e) (k : Nat) : Rf (w.setCell ⟨g, 2, none⟩ (.int .i64 (k : Int))) g A n c at_ k := ⟨set_blk h.blk⟩
theorem Rf.drew (h : Rf w g A n c at_ e) (q : Nat) : Rf (w.drewN q) g A n c at_ e := ⟨h.blk⟩
end

structure Rfr (w : World) (g N : Nat) (A : Option Addr) (n c : Nat) (bs : List Int) (at_ e : Nat) : Prop where
  rf : Rf w g A n c at_ e
  row : Row .u8 w N A n bs
  low : N ≤ g
  nc : n ≤ c
  le : at_ ≤ n
  nil : A = none → c = 0
  byt : ∀ x ∈ bs, 0 ≤ x ∧ x ≤ 255
  len : n ≤ 4398046511104

theorem Rfr.lt {w : World} {g N n c at_ e : Nat} {A : Option Addr} {bs : List Int} (h : Rfr w g N A n c bs at_ e) : g < w.heap.size := lt_of_block h.rf.blk
theorem Rfr.only {M : Nat → Prop} {w w' : World} {g N n c at_ e : Nat} {A : Option Addr} {bs : List Int} (h : Rfr w g N A n c bs at_ e) (ho : Only M w w') (hg : ¬ M g) (hM : ∀ k, k < N → ¬ M k) : Rfr w' g N A n c bs at_ e :=
  ⟨⟨ho.at h.rf.blk hg⟩, ho.row h.row (by have := h.lt; have := h.low; omega) (fun b _ _ hb => hM b hb), h.low, h.nc, h.le, h.nil, h.byt, h.len⟩
theorem Rfr.set {w w' : World} {g N n c at_ e at' e' : Nat} {A : Option Addr} {bs : List Int} (h : Rfr w g N A n c bs at_ e) (ho : Only (fun k => k = g) w w') (hr : Rf w' g A n c at' e') (ha : at' ≤ n) : Rfr w' g N A n c bs at' e' :=
  ⟨hr, ho.row h.row (by have := h.lt; have := h.low; omega) (fun b _ _ hb e => by have := h.low; omega), h.low, h.nc, ha, h.nil, h.byt, h.len⟩

/-- What raw returns: layer 1's number and size, its error kept. -/
def RawTo (w : World) (g N : Nat) (A : Option Addr) (n c : Nat) (bs : List Int) (at_ : Nat) (r : Ending) (w' : World) : Prop :=
  r = .returned (.tuple #[.int .u64 ((take 0 0 (bs.drop at_)).1 : Int), .int .i64 ((take 0 0 (bs.drop at_)).2.1 : Int)]) ∧ Rfr w' g N A n c bs at_ (take 0 0 (bs.drop at_)).2.2 ∧ Only (fun k => k = g) w w'

set_option maxHeartbeats 1600000 in
set_option maxRecDepth 100000 in
theorem raw_any (g N n c at_ : Nat) (A : Option Addr) (bs : List Int) (w : World) (h : Rfr w g N A n c bs at_ 0) :
    Calls Try.prog 58 #[.pointer (some ⟨g, 0, none⟩)] w (RawTo w g N A n c bs at_) := by
  have HR := Lib.hid h
  have c0 := h.rf.c0
  have c1 := h.rf.c1
  have c2 := h.rf.c2
  have f2 := h.rf.f2
  have hle := h.le
  have hnc := h.nc
  have hlen := h.len
  obtain ⟨t, HT⟩ : ∃ t, Hid (take 0 0 (bs.drop at_) = t) := ⟨_, rfl⟩
  obtain ⟨x, s, er⟩ := t
  have TK : ∀ (A' : Option Addr) (m c' : Nat) (w' : World), Row .u8 w' N A' m (bs.drop at_) → Calls Try.prog 72 #[.slice A' m c'] w' fun e w'' => e = .returned (.tuple #[.int .u64 (x : Int), .int .i64 (s : Int), .int .i64 (er : Int)]) ∧ w'' = w' := by
    intro A' m c' w' hr
    have := reftake_any A' m c' N (bs.drop at_) w' hr (fun y hy => HR.out.byt y (List.mem_of_mem_drop hy))
    rw [HT.out] at this
    exact same_flip this
  have HTK := Lib.hid TK
  clear h TK
  have fin : ∀ q : Nat, (er = 0 → RawTo w g N A n c bs at_ (.returned (.tuple #[.int .u64 (x : Int), .int .i64 (s : Int)])) (w.drewN q)) ∧
      (er ≠ 0 → RawTo w g N A n c bs at_ (.returned (.tuple #[.int .u64 (x : Int), .int .i64 (s : Int)])) ((w.drewN q).setCell ⟨g, 2, none⟩ (.int .i64 (er : Int)))) := by
    intro q
    have hO : Only (fun k => k = g) w (w.drewN q) := ⟨rfl, rfl, rfl, Nat.le_refl _, fun _ _ _ => rfl⟩
    have hO2 : Only (fun k => k = g) w ((w.drewN q).setCell ⟨g, 2, none⟩ (.int .i64 (er : Int))) := hO.trans (Only.setCell _ ⟨g, 2, none⟩ _) (fun _ _ h => h)
    constructor
    · intro he
      unfold RawTo
      rw [HT.out]
      refine ⟨rfl, HR.out.set hO ?_ HR.out.le, hO⟩
      have := HR.out.rf.drew q
      simpa [he] using this
    · intro he
      unfold RawTo
      rw [HT.out]
      exact ⟨rfl, HR.out.set hO2 ((HR.out.rf.drew q).set2 er) HR.out.le, hO2⟩
  have FIN := Lib.hid fin
  clear fin
  rcases Nat.eq_zero_or_pos n with hn0 | hn0
  · subst hn0
    have ha : at_ = 0 := by omega
    subst ha
    have HRow : Hid (Row .u8 w N A (0 - 0) (bs.drop 0)) := by
      have := HR.out.row
      unfold Hid
      simpa using this
    rcases A with _ | a
    · have hc0 := HR.out.nil rfl
      subst hc0
      go_enter Try.func58, Try.ntmps58
      go_wp2_with fail
      go_quiet ((go_at_call 72; refine Calls.quiet_of_same (HTK.out none 0 0 _ HRow.out)))
      by_cases he : er = 0
      · have HE := Lib.hid he
        have hz : ((er : Int) == 0) = true := beq_iff_eq.2 (by omega)
        clear he
        go_wp2
        go_ret2
        exact (FIN.out _).1 HE.out
      · have HE := Lib.hid he
        have hz : ((er : Int) == 0) = false := beq_eq_false_iff_ne.2 (by omega)
        clear he
        go_wp2
        go_ret2
        exact (FIN.out _).2 HE.out
    · by_cases hc0 : c = 0
      · subst hc0
        go_enter Try.func58, Try.ntmps58
        go_wp2_with fail
        go_quiet ((go_at_call 72; refine Calls.quiet_of_same (HTK.out (some a) 0 0 _ HRow.out)))
        by_cases he : er = 0
        · have HE := Lib.hid he
          have hz : ((er : Int) == 0) = true := beq_iff_eq.2 (by omega)
          clear he
          go_wp2
          go_ret2
          exact (FIN.out _).1 HE.out
        · have HE := Lib.hid he
          have hz : ((er : Int) == 0) = false := beq_eq_false_iff_ne.2 (by omega)
          clear he
          go_wp2
          go_ret2
          exact (FIN.out _).2 HE.out
      · go_enter Try.func58, Try.ntmps58
        go_wp2_with fail
        go_quiet ((go_at_call 72; refine Calls.quiet_of_same (HTK.out (some a) 0 c _ HRow.out)))
        by_cases he : er = 0
        · have HE := Lib.hid he
          have hz : ((er : Int) == 0) = true := beq_iff_eq.2 (by omega)
          clear he
          go_wp2
          go_ret2
          exact (FIN.out _).1 HE.out
        · have HE := Lib.hid he
          have hz : ((er : Int) == 0) = false := beq_eq_false_iff_ne.2 (by omega)
          clear he
          go_wp2
          go_ret2
          exact (FIN.out _).2 HE.out
  · obtain ⟨b, o, rfl⟩ := Row.some_of HR.out.row hn0
    have HRow : Hid (∀ o', (n - at_ ≠ 0 → o' = o + at_) → Row .u8 w N (some ⟨b, o', none⟩) (n - at_) (bs.drop at_)) := fun o' ho => Row.drop HR.out.row ho
    by_cases hc0 : c = at_
    · have hz0 : n - at_ = 0 := by omega
      have hna : at_ = n := by omega
      have HR0 : Hid (Row .u8 w N (some ⟨b, o, none⟩) 0 (bs.drop at_)) := by
        have := HRow.out o (fun h => absurd hz0 h)
        rw [hz0] at this
        exact this
      subst hna
      subst hc0
      clear hz0 HRow
      go_enter Try.func58, Try.ntmps58
      go_wp2_with fail
      go_quiet ((go_at_call 72; refine Calls.quiet_of_same (HTK.out (some ⟨b, o, none⟩) 0 0 _ HR0.out)))
      by_cases he : er = 0
      · have HE := Lib.hid he
        have hz : ((er : Int) == 0) = true := beq_iff_eq.2 (by omega)
        clear he
        go_wp2
        go_ret2
        exact (FIN.out _).1 HE.out
      · have HE := Lib.hid he
        have hz : ((er : Int) == 0) = false := beq_eq_false_iff_ne.2 (by omega)
        clear he
        go_wp2
        go_ret2
        exact (FIN.out _).2 HE.out
    · have HR0 : Hid (Row .u8 w N (some ⟨b, o + at_, none⟩) (n - at_) (bs.drop at_)) := HRow.out (o + at_) (fun _ => rfl)
      go_enter Try.func58, Try.ntmps58
      go_wp2_with fail
      go_quiet ((go_at_call 72; refine Calls.quiet_of_same (HTK.out (some ⟨b, o + at_, none⟩) (n - at_) (c - at_) _ HR0.out)))
      by_cases he : er = 0
      · have HE := Lib.hid he
        have hz : ((er : Int) == 0) = true := beq_iff_eq.2 (by omega)
        clear he
        go_wp2
        go_ret2
        exact (FIN.out _).1 HE.out
      · have HE := Lib.hid he
        have hz : ((er : Int) == 0) = false := beq_eq_false_iff_ne.2 (by omega)
        clear he
        go_wp2
        go_ret2
        exact (FIN.out _).2 HE.out
end Go.Proofs.Ytmpihllcmdgapaa.Fld

/- The reference's reader of layer 3: its methods, as contracts. -/
namespace Go.Proofs.Ytmpihllcmdgapaa.Fld
open Go.RowKit Var

def RefSteps (w : World) (g N : Nat) (A : Option Addr) (n c : Nat) (bs : List Int) (at_ e : Nat) (k : IntKind) (t : Int × Nat × Nat) (r : Ending) (w' : World) : Prop :=
  r = .returned (.int k (val e t)) ∧ (∃ at', Rfr w' g N A n c bs at' (after (bs.drop at_) e t.2.1 t.2.2).2 ∧ bs.drop at' = (after (bs.drop at_) e t.2.1 t.2.2).1) ∧ Only (fun k => k = g) w w'

section
variable {w w1 w' : World} {g N n c at_ e : Nat} {A : Option Addr} {bs : List Int} {k : IntKind} {t : Int × Nat × Nat}
theorem refsteps_bad (h : Rfr w g N A n c bs at_ e) (he : e ≠ 0) : RefSteps w g N A n c bs at_ e k t (.returned (.int k 0)) w := by
  have e1 : after (bs.drop at_) e t.2.1 t.2.2 = (bs.drop at_, e) := by unfold after; rw [if_pos he]
  unfold RefSteps
  rw [e1]
  exact ⟨by unfold val; rw [if_pos (.inl he)], ⟨at_, h, rfl⟩, Only.refl _ _⟩
theorem refsteps_err {er : Nat} (h : Rfr w' g N A n c bs at_ er) (ht : t.2.2 = er) (he : er ≠ 0) (ho : Only (fun k => k = g) w w') : RefSteps w g N A n c bs at_ 0 k t (.returned (.int k 0)) w' := by
  have e1 : after (bs.drop at_) 0 t.2.1 t.2.2 = (bs.drop at_, er) := by unfold after; rw [if_neg (by simp), if_pos (by rw [ht]; exact he), ht]
  unfold RefSteps
  rw [e1]
  exact ⟨by unfold val; rw [if_pos (.inr (by rw [ht]; exact he))], ⟨at_, h, rfl⟩, ho⟩
theorem refsteps_ok {s : Nat} {x : Int} (h : Rfr w' g N A n c bs (at_ + s) 0) (ht : t = (x, s, 0)) (ho : Only (fun k => k = g) w w') : RefSteps w g N A n c bs at_ 0 k t (.returned (.int k x)) w' := by
  subst ht
  refine ⟨by simp [val], ⟨at_ + s, by simpa [after] using h, by simp [after]⟩, ho⟩
end

set_option maxHeartbeats 800000 in
set_option maxRecDepth 100000 in
theorem raw_bad (g n c at_ e : Nat) (A : Option Addr) (w : World) (h : Rf w g A n c at_ e) (he : e ≠ 0) :
    Calls Try.prog 58 #[.pointer (some ⟨g, 0, none⟩)] w fun r w' => r = .returned (.tuple #[.int .u64 0, .int .i64 0]) ∧ w = w' := by
  have c2 := h.c2
  have hne : ((e : Int) == 0) = false := beq_eq_false_iff_ne.2 (by omega)
  clear h he
  go_enter Try.func58, Try.ntmps58
  go_wp2
  go_ret2
  exact ⟨rfl, rfl⟩

theorem nxt_err {xs : List Int} {most : Int} {x s er : Nat} (h : take 0 0 xs = (x, s, er)) (he : er ≠ 0) : (nxt xs most).2.2 = er := by unfold nxt; rw [h]; simp [he]
theorem nxt_abv {xs : List Int} {most : Int} {x s : Nat} (h : take 0 0 xs = (x, s, 0)) (ha : abv x most = true) : (nxt xs most).2.2 = 3 := by unfold nxt; rw [h]; simp [ha]
theorem nxt_fin {xs : List Int} {most : Int} {x s : Nat} (h : take 0 0 xs = (x, s, 0)) (ha : abv x most = false) : nxt xs most = ((x : Int), s, 0) := by unfold nxt; rw [h]; simp [ha]

set_option maxHeartbeats 1600000 in
set_option maxRecDepth 100000 in
theorem refnum_any (g N n c at_ e : Nat) (A : Option Addr) (bs : List Int) (most : Int) (w : World) (h : Rfr w g N A n c bs at_ e) (h1 : -9223372036854775808 ≤ most) (h2 : most ≤ 9223372036854775807) :
    Calls Try.prog 33 #[.pointer (some ⟨g, 0, none⟩), .int .i64 most] w (RefSteps w g N A n c bs at_ e .i64 (nxt (bs.drop at_) most)) := by
  have HR := Lib.hid h
  have H1 := Lib.hid h1
  have H2 := Lib.hid h2
  have hbyt : ∀ y ∈ bs.drop at_, 0 ≤ y ∧ y ≤ 255 := fun y hy => h.byt y (List.mem_of_mem_drop hy)
  have H64 := Lib.hid (take64 hbyt)
  have HSZ := Lib.hid (take_size hbyt)
  have HL : Hid ((bs.drop at_).length = n - at_) := by unfold Hid; rw [List.length_drop, h.row.len]
  clear h h1 h2 hbyt
  by_cases he : e = 0
  · subst he
    obtain ⟨t, HT⟩ : ∃ t, Hid (take 0 0 (bs.drop at_) = t) := ⟨_, rfl⟩
    obtain ⟨x, s, er⟩ := t
    rw [HT.out] at H64 HSZ
    go_enter Try.func33, Try.ntmps33
    go_wp2_with fail
    refine (raw_any g N n c at_ A bs w HR.out).mono ?_
    rintro r w1 ⟨rfl, hr1, ho1⟩
    rw [HT.out] at hr1
    rw [HT.out]
    have HR1 := Lib.hid hr1
    have HO1 := Lib.hid ho1
    have d1 := hr1.rf.c1
    have g1 := hr1.rf.f1
    have d2 := hr1.rf.c2
    have g2 := hr1.rf.f2
    clear hr1 ho1
    by_cases her : er = 0
    · subst her
      obtain ⟨s0, s1⟩ := HSZ.out rfl
      have s2 : at_ + s ≤ n := by have := HL.out; have := HR.out.le; omega
      have s3 : n ≤ 4398046511104 := HR.out.len
      clear s0 s1
      have HS2 := Lib.hid s2
      have hw0 : IntKind.i64.wrap ((at_ : Int) + s) = (at_ : Int) + s := IntWalk.i64_in _ ⟨by omega, by omega⟩
      cases ha : abv x most with
      | true =>
        have fin : ∀ r w2, r = Ending.returned (.int .i64 0) → w2 = w1.setCell ⟨g, 2, none⟩ (.int .i64 3) → RefSteps w g N A n c bs at_ 0 .i64 (nxt (bs.drop at_) most) r w2 := by
          rintro r w2 rfl rfl
          have hO := HO1.out.trans (Only.setCell w1 ⟨g, 2, none⟩ (.int .i64 3)) (fun _ _ h => h)
          exact refsteps_err (HR1.out.set (Only.setCell w1 ⟨g, 2, none⟩ _) (HR1.out.rf.set2 3) HR1.out.le) (nxt_abv HT.out ha) (by omega) hO
        have FIN := Lib.hid fin
        clear fin s2
        by_cases hm : most < 0
        · have hd : decide (most < 0) = true := decide_eq_true hm
          go_wp2
          go_ret
          exact FIN.out _ _ rfl rfl
        · have hd : decide (most < 0) = false := decide_eq_false hm
          have hw : IntKind.u64.wrap most = most := IntWalk.u64_in _ ⟨by omega, by have := H2.out; omega⟩
          by_cases hx : most < (x : Int)
          · have hd2 : decide (most < (x : Int)) = true := decide_eq_true hx
            go_wp2
            go_ret
            exact FIN.out _ _ rfl rfl
          · have hd2 : decide (most < (x : Int)) = false := decide_eq_false hx
            have hx3 : (4611686018427387904 : Int) < (x : Int) := by
              unfold abv at ha
              simp [hd, hd2] at ha
              omega
            have hd3 : decide ((4611686018427387904 : Int) < (x : Int)) = true := decide_eq_true hx3
            go_wp2
            go_ret
            exact FIN.out _ _ rfl rfl
      | false =>
        obtain ⟨a1, a2, a3⟩ := abv_no ha
        have hd : decide (most < 0) = false := decide_eq_false (by omega)
        have hd2 : decide (most < (x : Int)) = false := decide_eq_false (by omega)
        have hd3 : decide ((4611686018427387904 : Int) < (x : Int)) = false := decide_eq_false (by omega)
        have hw : IntKind.u64.wrap most = most := IntWalk.u64_in _ ⟨by omega, by have := H2.out; omega⟩
        have hw2 : IntKind.i64.wrap (x : Int) = x := IntWalk.i64_in _ ⟨by omega, by omega⟩
        have HF := Lib.hid (nxt_fin HT.out ha)
        clear a3 s2
        go_wp2
        go_ret
        have e1 : (at_ : Int) + s = ((at_ + s : Nat) : Int) := by omega
        refine refsteps_ok ?_ HF.out (HO1.out.trans (Only.setCell w1 ⟨g, 1, none⟩ _) (fun _ _ h => h))
        refine HR1.out.set (Only.setCell w1 ⟨g, 1, none⟩ _) ?_ HS2.out
        rw [e1]
        exact HR1.out.rf.set1 (at_ + s)
    · have hne : ((er : Int) == 0) = false := beq_eq_false_iff_ne.2 (by omega)
      have HF := Lib.hid (nxt_err (most := most) HT.out her)
      have HE := Lib.hid her
      clear her
      go_wp2
      go_ret
      exact refsteps_err HR1.out HF.out HE.out HO1.out
  · have hne : ((e : Int) == 0) = false := beq_eq_false_iff_ne.2 (by omega)
    have c2 := HR.out.rf.c2
    have HE := Lib.hid he
    clear he
    go_enter Try.func33, Try.ntmps33
    go_wp2_with fail
    refine (raw_bad g n c at_ e A w HR.out.rf HE.out).mono ?_
    rintro r w1 ⟨rfl, rfl⟩
    go_wp2
    go_ret
    exact refsteps_bad HR.out HE.out
end Go.Proofs.Ytmpihllcmdgapaa.Fld

/- The reference's reader of layer 3: Read, as a contract. -/
namespace Go.Proofs.Ytmpihllcmdgapaa.Fld
open Go.RowKit Var

set_option maxHeartbeats 800000 in
set_option maxRecDepth 100000 in
theorem refread_any (A : Option Addr) (n c : Nat) (bs : List Int) (N : Nat) (w : World) (h : Row .u8 w N A n bs) (hN : N ≤ w.heap.size) (hnc : n ≤ c) (hnil : A = none → c = 0) (hn : n ≤ 4398046511104) (hbyt : ∀ x ∈ bs, 0 ≤ x ∧ x ≤ 255) :
    Calls Try.prog 32 #[.slice A n c] w fun r w' => r = .returned (.pointer (some ⟨w.heap.size, 0, none⟩)) ∧ Rfr w' w.heap.size N A n c bs 0 0 ∧ Below w.heap.size w w' := by
  have H := Lib.hid h
  have HN := Lib.hid hN
  have HC := Lib.hid hnc
  have HI := Lib.hid hnil
  have HY := Lib.hid hbyt
  have HL := Lib.hid hn
  clear h hN hnc hnil hbyt hn
  go_enter Try.func32, Try.ntmps32
  go_wp2
  go_ret
  exact ⟨rfl, ⟨⟨heap_alloc_new w _⟩, H.out.alloc HN.out _, HN.out, HC.out, Nat.zero_le _, HI.out, HY.out, HL.out⟩, (Below.refl _ _).alloc (Nat.le_refl _) _⟩
end Go.Proofs.Ytmpihllcmdgapaa.Fld

/- The reference's reader of layer 3: Signed, Byte, Bytes, Done, Read, as contracts. -/
namespace Go.Proofs.Ytmpihllcmdgapaa.Fld
open Go.RowKit Var

theorem nxs_err {xs : List Int} {most : Int} {x s er : Nat} (h : take 0 0 xs = (x, s, er)) (he : er ≠ 0) : (nxs xs most).2.2 = er := by unfold nxs; rw [h]; simp [he]
theorem nxs_abv {xs : List Int} {most : Int} {x s : Nat} (h : take 0 0 xs = (x, s, 0)) (ha : abv (back x).natAbs most = true) : (nxs xs most).2.2 = 3 := by unfold nxs; rw [h]; simp [ha]
theorem nxs_fin {xs : List Int} {most : Int} {x s : Nat} (h : take 0 0 xs = (x, s, 0)) (ha : abv (back x).natAbs most = false) : nxs xs most = (back x, s, 0) := by unfold nxs; rw [h]; simp [ha]

set_option maxHeartbeats 1600000 in
set_option maxRecDepth 100000 in
theorem refsgn_any (g N n c at_ e : Nat) (A : Option Addr) (bs : List Int) (most : Int) (w : World) (h : Rfr w g N A n c bs at_ e) (h1 : -9223372036854775808 ≤ most) (h2 : most ≤ 9223372036854775807) :
    Calls Try.prog 59 #[.pointer (some ⟨g, 0, none⟩), .int .i64 most] w (RefSteps w g N A n c bs at_ e .i64 (nxs (bs.drop at_) most)) := by
  have HR := Lib.hid h
  have H1 := Lib.hid h1
  have H2 := Lib.hid h2
  have hbyt : ∀ y ∈ bs.drop at_, 0 ≤ y ∧ y ≤ 255 := fun y hy => h.byt y (List.mem_of_mem_drop hy)
  have H64 := Lib.hid (take64 hbyt)
  have HSZ := Lib.hid (take_size hbyt)
  have HL : Hid ((bs.drop at_).length = n - at_) := by unfold Hid; rw [List.length_drop, h.row.len]
  clear h h1 h2 hbyt
  by_cases he : e = 0
  · subst he
    obtain ⟨t, HT⟩ : ∃ t, Hid (take 0 0 (bs.drop at_) = t) := ⟨_, rfl⟩
    obtain ⟨x, s, er⟩ := t
    rw [HT.out] at H64 HSZ
    go_enter Try.func59, Try.ntmps59
    go_wp2_with fail
    refine (raw_any g N n c at_ A bs w HR.out).mono ?_
    rintro r w1 ⟨rfl, hr1, ho1⟩
    rw [HT.out] at hr1
    rw [HT.out]
    have HR1 := Lib.hid hr1
    have HO1 := Lib.hid ho1
    have d1 := hr1.rf.c1
    have g1 := hr1.rf.f1
    have d2 := hr1.rf.c2
    have g2 := hr1.rf.f2
    clear hr1 ho1
    by_cases her : er = 0
    · subst her
      obtain ⟨s0, s1⟩ := HSZ.out rfl
      have s2 : at_ + s ≤ n := by have := HL.out; have := HR.out.le; omega
      have s3 : n ≤ 4398046511104 := HR.out.len
      clear s0 s1
      have HS2 := Lib.hid s2
      have hw0 : IntKind.i64.wrap ((at_ : Int) + s) = (at_ : Int) + s := IntWalk.i64_in _ ⟨by omega, by omega⟩
      have hwq : IntKind.u64.wrap ((x : Int) / 2) = (x : Int) / 2 := IntWalk.u64_in _ ⟨by omega, by have := H64.out; omega⟩
      have hwr : IntKind.u64.wrap ((x : Int) % 2) = (x : Int) % 2 := IntWalk.u64_in _ ⟨by omega, by omega⟩
      have hwp : IntKind.u64.wrap ((x : Int) / 2 + 1) = (x : Int) / 2 + 1 := IntWalk.u64_in _ ⟨by omega, by have := H64.out; omega⟩
      have finerr : abv (back x).natAbs most = true → ∀ r w2, r = Ending.returned (.int .i64 0) → w2 = w1.setCell ⟨g, 2, none⟩ (.int .i64 3) → RefSteps w g N A n c bs at_ 0 .i64 (nxs (bs.drop at_) most) r w2 := by
        rintro ha r w2 rfl rfl
        have hO := HO1.out.trans (Only.setCell w1 ⟨g, 2, none⟩ (.int .i64 3)) (fun _ _ h => h)
        exact refsteps_err (HR1.out.set (Only.setCell w1 ⟨g, 2, none⟩ _) (HR1.out.rf.set2 3) HR1.out.le) (nxs_abv HT.out ha) (by omega) hO
      have FE := Lib.hid finerr
      have finok : abv (back x).natAbs most = false → ∀ r w2 (i : Int), i = back x → r = Ending.returned (.int .i64 i) → w2 = w1.setCell ⟨g, 1, none⟩ (.int .i64 ((at_ : Int) + s)) → RefSteps w g N A n c bs at_ 0 .i64 (nxs (bs.drop at_) most) r w2 := by
        rintro ha r w2 i rfl rfl rfl
        have e1 : (at_ : Int) + s = ((at_ + s : Nat) : Int) := by omega
        refine refsteps_ok ?_ (nxs_fin HT.out ha) (HO1.out.trans (Only.setCell w1 ⟨g, 1, none⟩ _) (fun _ _ h => h))
        refine HR1.out.set (Only.setCell w1 ⟨g, 1, none⟩ _) ?_ HS2.out
        rw [e1]
        exact HR1.out.rf.set1 (at_ + s)
      have FO := Lib.hid finok
      clear finerr finok s2
      by_cases hodd : x % 2 = 1
      · have ho : ((x : Int) % 2 == 1) = true := beq_iff_eq.2 (by omega)
        obtain ⟨z, hz, HZ⟩ : ∃ z : Int, (x : Int) / 2 + 1 = z ∧ Hid (z = (x : Int) / 2 + 1) := ⟨_, rfl, rfl⟩
        have HZ' : Hid (((back x).natAbs : Int) = z) := by have := HZ.out; unfold Hid back; split <;> omega
        have HBK : Hid (back x = -z) := by have := HZ.out; unfold Hid back; split <;> omega
        rw [hz] at hwp
        have hz0 : 0 ≤ z := by have := HZ.out; omega
        cases ha : abv (back x).natAbs most with
        | true =>
          have F := Lib.hid (FE.out ha)
          by_cases hm : most < 0
          · have hd : decide (most < 0) = true := decide_eq_true hm
            go_wp2
            go_ret
            exact F.out _ _ rfl rfl
          · have hd : decide (most < 0) = false := decide_eq_false hm
            have hw : IntKind.u64.wrap most = most := IntWalk.u64_in _ ⟨by omega, by have := H2.out; omega⟩
            by_cases hx : most < z
            · have hd2 : decide (most < z) = true := decide_eq_true hx
              go_wp2
              go_ret
              exact F.out _ _ rfl rfl
            · have hd2 : decide (most < z) = false := decide_eq_false hx
              have hx3 : (4611686018427387904 : Int) < z := by
                have h5 := HZ'.out
                unfold abv at ha
                rw [h5, hd, hd2] at ha
                simp at ha
                omega
              have hd3 : decide ((4611686018427387904 : Int) < z) = true := decide_eq_true hx3
              go_wp2
              go_ret
              exact F.out _ _ rfl rfl
        | false =>
          have F := Lib.hid (FO.out ha)
          obtain ⟨a1, a2, a3⟩ := abv_no ha
          have h5 := HZ'.out
          have hd : decide (most < 0) = false := decide_eq_false (by omega)
          have hd2 : decide (most < z) = false := decide_eq_false (by omega)
          have hd3 : decide ((4611686018427387904 : Int) < z) = false := decide_eq_false (by omega)
          have hw : IntKind.u64.wrap most = most := IntWalk.u64_in _ ⟨by omega, by have := H2.out; omega⟩
          have hw2 : IntKind.i64.wrap z = z := IntWalk.i64_in _ ⟨by omega, by omega⟩
          have hw3 : IntKind.i64.wrap (-z) = -z := IntWalk.i64_in _ ⟨by omega, by omega⟩
          clear a3 h5 a2
          go_wp2
          go_ret
          exact F.out _ _ _ HBK.out.symm rfl rfl
      · have ho : ((x : Int) % 2 == 1) = false := beq_eq_false_iff_ne.2 (by omega)
        obtain ⟨z, hz, HZ⟩ : ∃ z : Int, (x : Int) / 2 = z ∧ Hid (z = (x : Int) / 2) := ⟨_, rfl, rfl⟩
        have HZ' : Hid (((back x).natAbs : Int) = z) := by have := HZ.out; unfold Hid back; split <;> omega
        have HBK : Hid (back x = z) := by have := HZ.out; unfold Hid back; split <;> omega
        rw [hz] at hwq
        have hz0 : 0 ≤ z := by have := HZ.out; omega
        cases ha : abv (back x).natAbs most with
        | true =>
          have F := Lib.hid (FE.out ha)
          by_cases hm : most < 0
          · have hd : decide (most < 0) = true := decide_eq_true hm
            go_wp2
            go_ret
            exact F.out _ _ rfl rfl
          · have hd : decide (most < 0) = false := decide_eq_false hm
            have hw : IntKind.u64.wrap most = most := IntWalk.u64_in _ ⟨by omega, by have := H2.out; omega⟩
            by_cases hx : most < z
            · have hd2 : decide (most < z) = true := decide_eq_true hx
              go_wp2
              go_ret
              exact F.out _ _ rfl rfl
            · have hd2 : decide (most < z) = false := decide_eq_false hx
              have hx3 : (4611686018427387904 : Int) < z := by
                have h5 := HZ'.out
                unfold abv at ha
                rw [h5, hd, hd2] at ha
                simp at ha
                omega
              have hd3 : decide ((4611686018427387904 : Int) < z) = true := decide_eq_true hx3
              go_wp2
              go_ret
              exact F.out _ _ rfl rfl
        | false =>
          have F := Lib.hid (FO.out ha)
          obtain ⟨a1, a2, a3⟩ := abv_no ha
          have h5 := HZ'.out
          have hd : decide (most < 0) = false := decide_eq_false (by omega)
          have hd2 : decide (most < z) = false := decide_eq_false (by omega)
          have hd3 : decide ((4611686018427387904 : Int) < z) = false := decide_eq_false (by omega)
          have hw : IntKind.u64.wrap most = most := IntWalk.u64_in _ ⟨by omega, by have := H2.out; omega⟩
          have hw2 : IntKind.i64.wrap z = z := IntWalk.i64_in _ ⟨by omega, by omega⟩
          have hw3 : IntKind.i64.wrap (-z) = -z := IntWalk.i64_in _ ⟨by omega, by omega⟩
          clear a3 h5 a2
          go_wp2
          go_ret
          exact F.out _ _ _ HBK.out.symm rfl rfl
    · have hne : ((er : Int) == 0) = false := beq_eq_false_iff_ne.2 (by omega)
      have HF := Lib.hid (nxs_err (most := most) HT.out her)
      have HE := Lib.hid her
      clear her
      go_wp2
      go_ret
      exact refsteps_err HR1.out HF.out HE.out HO1.out
  · have hne : ((e : Int) == 0) = false := beq_eq_false_iff_ne.2 (by omega)
    have c2 := HR.out.rf.c2
    have HE := Lib.hid he
    clear he
    go_enter Try.func59, Try.ntmps59
    go_wp2_with fail
    refine (raw_bad g n c at_ e A w HR.out.rf HE.out).mono ?_
    rintro r w1 ⟨rfl, rfl⟩
    go_wp2
    go_ret
    exact refsteps_bad HR.out HE.out
end Go.Proofs.Ytmpihllcmdgapaa.Fld

/- The program's Reader and the reference's, step by step beside each other. -/
namespace Go.Proofs.Ytmpihllcmdgapaa.Fld
open Go.RowKit Var

/-- Both readers stand at the same place, or both have the same error. -/
structure Both (w0 w : World) (gP gR N : Nat) (A : Option Addr) (n c : Nat) (bs xs : List Int) (at_ e : Nat) : Prop where
  rd : Rdr w gP xs e
  rf : Rfr w gR N A n c bs at_ e
  eq : e = 0 → bs.drop at_ = xs
  lt : gP < gR
  low : N ≤ gP
  low0 : w0.heap.size ≤ N
  len : xs.length ≤ 4398046511104
  bel : Below w0.heap.size w0 w

section
variable {w0 w w1 w2 : World} {gP gR N n c at_ at1 e e1 : Nat} {A : Option Addr} {bs xs xs1 : List Int}
theorem Both.below (h : Both w0 w gP gR N A n c bs xs at_ e) (hb : Below w.heap.size w w1) : Both w0 w1 gP gR N A n c bs xs at_ e :=
  ⟨h.rd.below hb, h.rf.only (M := fun _ => False) (Only.of_below hb) (fun h => h) (fun _ _ h => h), h.eq, h.lt, h.low, h.low0, h.len, h.bel.trans (hb.mono h.bel.size)⟩
theorem Both.drew (h : Both w0 w gP gR N A n c bs xs at_ e) : Both w0 w.drew gP gR N A n c bs xs at_ e := h.below ⟨rfl, rfl, rfl, Nat.le_refl _, fun _ _ => rfl⟩
theorem Both.drewN (h : Both w0 w gP gR N A n c bs xs at_ e) (q : Nat) : Both w0 (w.drewN q) gP gR N A n c bs xs at_ e := h.below ⟨rfl, rfl, rfl, Nat.le_refl _, fun _ _ => rfl⟩
theorem Only.cell_at {M : Nat → Prop} {a : Addr} {v : Value} (h : Only M w w1) (hc : w.cell? a = some v) (hn : ¬ M a.block) : w1.cell? a = some v :=
  (World.cell?_of_block (w := w) (h.block a.block (World.block_lt_of_cell? w a hc) hn)).trans hc
/-- Behind one step of each. -/
theorem Both.step (h : Both w0 w gP gR N A n c bs xs at_ e) (h1 : Rdr w1 gP xs1 e1) (o1 : Only (fun k => k = gP) w w1) (h2 : Rfr w2 gR N A n c bs at1 e1) (o2 : Only (fun k => k = gR) w1 w2) (he : e1 = 0 → bs.drop at1 = xs1) (hl : xs1.length ≤ xs.length) : Both w0 w2 gP gR N A n c bs xs1 at1 e1 := by
  have a := h.lt
  have b := h.low
  have d := h.low0
  have hs := h.bel.size
  have g1 := h.rd.lt
  refine ⟨h1.only o2 (fun k hk hk2 => by omega), h2, he, a, b, d, Nat.le_trans hl h.len, ?_⟩
  have b1 : Below w0.heap.size w w1 := o1.below hs (fun k hk => by omega)
  have b2 : Below w0.heap.size w1 w2 := o2.below (Nat.le_trans hs o1.size) (fun k hk => by omega)
  exact (h.bel.trans b1).trans b2
theorem Both.mid (h : Both w0 w gP gR N A n c bs xs at_ e) (o1 : Only (fun k => k = gP) w w1) : Rfr w1 gR N A n c bs at_ e :=
  h.rf.only o1 (fun e => by have := h.lt; omega) (fun k hk e => by have := h.low; omega)
end

theorem after_len (xs : List Int) (e s er : Nat) : (after xs e s er).1.length ≤ xs.length := by
  unfold after
  split
  · exact Nat.le_refl _
  · split
    · exact Nat.le_refl _
    · simp

/-- What one step of each does: the same value, the same error. -/
def Pair (gP gR N : Nat) (A : Option Addr) (n c : Nat) (bs xs : List Int) (at_ e : Nat) (k : IntKind) (f1 f2 : Nat) (rest : List Value) (y : Int) (xs1 : List Int) (e1 : Nat) : Prop :=
  (∀ w, Rdr w gP xs e → Calls Try.prog f1 (#[.pointer (some ⟨gP, 0, none⟩)] ++ rest.toArray) w fun r w' => r = .returned (.int k y) ∧ Rdr w' gP xs1 e1 ∧ Only (fun k => k = gP) w w') ∧
  (∀ w, Rfr w gR N A n c bs at_ e → Calls Try.prog f2 (#[.pointer (some ⟨gR, 0, none⟩)] ++ rest.toArray) w fun r w' => r = .returned (.int k y) ∧ (∃ at1, Rfr w' gR N A n c bs at1 e1 ∧ (e1 = 0 → bs.drop at1 = xs1)) ∧ Only (fun k => k = gR) w w') ∧ xs1.length ≤ xs.length

theorem pair_of {gP gR N n c at_ e f1 f2 : Nat} {A : Option Addr} {bs xs : List Int} {k : IntKind} {rest : List Value} (tf : List Int → Int × Nat × Nat) (he : e = 0 → bs.drop at_ = xs)
    (h1 : ∀ w, Rdr w gP xs e → Calls Try.prog f1 (#[.pointer (some ⟨gP, 0, none⟩)] ++ rest.toArray) w (Steps w gP xs e k (tf xs)))
    (h2 : ∀ w, Rfr w gR N A n c bs at_ e → Calls Try.prog f2 (#[.pointer (some ⟨gR, 0, none⟩)] ++ rest.toArray) w (RefSteps w gR N A n c bs at_ e k (tf (bs.drop at_)))) :
    ∃ y xs1 e1, Pair gP gR N A n c bs xs at_ e k f1 f2 rest y xs1 e1 := by
  refine ⟨val e (tf xs), (after xs e (tf xs).2.1 (tf xs).2.2).1, (after xs e (tf xs).2.1 (tf xs).2.2).2, fun w hw => h1 w hw, fun w hw => ?_, after_len _ _ _ _⟩
  refine (h2 w hw).mono ?_
  rintro r w' ⟨hr, ⟨at1, hf, hd⟩, ho⟩
  by_cases e0 : e = 0
  · have := he e0
    rw [this] at hr hf hd
    exact ⟨hr, ⟨at1, hf, fun _ => hd⟩, ho⟩
  · have v1 : val e (tf (bs.drop at_)) = val e (tf xs) := by unfold val; rw [if_pos (.inl e0), if_pos (.inl e0)]
    have a1 : (after (bs.drop at_) e (tf (bs.drop at_)).2.1 (tf (bs.drop at_)).2.2).2 = e := by unfold after; rw [if_pos e0]
    have a2 : (after xs e (tf xs).2.1 (tf xs).2.2).2 = e := by unfold after; rw [if_pos e0]
    rw [v1] at hr
    rw [a1] at hf
    rw [a2]
    exact ⟨hr, ⟨at1, hf, fun h => absurd h e0⟩, ho⟩

section
variable {gP gR N n c at_ e : Nat} {A : Option Addr} {bs xs : List Int} {most : Int}
theorem pair_number (he : e = 0 → bs.drop at_ = xs) (h1 : -9223372036854775808 ≤ most) (h2 : most ≤ 9223372036854775807) : ∃ y xs1 e1, Pair gP gR N A n c bs xs at_ e .i64 28 33 [.int .i64 most] y xs1 e1 :=
  pair_of (fun xs => nxt xs most) he (fun w hw => numberR gP e xs most w hw h1 h2) (fun w hw => refnum_any gR N n c at_ e A bs most w hw h1 h2)
theorem pair_signed (he : e = 0 → bs.drop at_ = xs) (h1 : -9223372036854775808 ≤ most) (h2 : most ≤ 9223372036854775807) : ∃ y xs1 e1, Pair gP gR N A n c bs xs at_ e .i64 71 59 [.int .i64 most] y xs1 e1 :=
  pair_of (fun xs => nxs xs most) he (fun w hw => signedR gP e xs most w hw h1 h2) (fun w hw => refsgn_any gR N n c at_ e A bs most w hw h1 h2)
end
end Go.Proofs.Ytmpihllcmdgapaa.Fld
