/- Layer 5 (sample): Take, as a contract. -/
import Derived.Test.YtefnpibikebmdaaSmpJ
import Derived.Test.YtefnpibikebmdaaSmpF
import Derived.Test.YtefnpibikebmdaaSmpW
import Derived.RegionTactic
import Derived.Deep.RegionHeld3
namespace Go.Proofs.Ytefnpibikebmdaa.Smp
open Go.RowKit Var Fld

attribute [local go_sem] Oper.semAt_some

/-- What stands behind a piece of code, behind a letter. -/
def NormTo (C : Act → World → Prop) : Exit → Act → World → Prop
  | .normal, a, w => C a w
  | _, _, _ => False
theorem wp_norm {c : Code} {P : Program} {Q : Exit → Act → World → Prop} {a : Act} {w : World} (h : ∀ C : Act → World → Prop, (∀ a w, Q .normal a w → C a w) → c.wp P (NormTo C) a w) : c.wp P Q a w := by
  refine Code.wp_mono (fun e a w hq => ?_) (h (fun a w => Q .normal a w) (fun _ _ h => h))
  cases e <;> first | exact hq | exact hq.elim

/-- Three results in cells. -/
theorem results_cells3 {P : Program} {fn : Func} {p q r : Tmp} {tp tq tr : TypeId} (h : fn.results = #[.cell p tp, .cell q tq, .cell r tr]) (tmps : Array Value) (w : World) {ap aq ar : Addr} {vp vq vr : Value}
    (hp : tmps.getD p undef = .pointer (some ap)) (hq : tmps.getD q undef = .pointer (some aq)) (hr : tmps.getD r undef = .pointer (some ar))
    (lp : (loadVar tp ap).run P w = .ok vp w) (lq : (loadVar tq aq).run P w = .ok vq w) (lr : (loadVar tr ar).run P w = .ok vr w) :
    (results fn tmps).run P w = .ok (.tuple #[vp, vq, vr]) w := by
  have hp' : tmps[p]?.getD undef = .pointer (some ap) := by simpa using hp
  have hq' : tmps[q]?.getD undef = .pointer (some aq) := by simpa using hq
  have hr' : tmps[r]?.getD undef = .pointer (some ar) := by simpa using hr
  simp [results, h, hp', hq', hr', asAddr, Sem.run_bind, Result.andThen, lp, lq, lr]

theorem load_slice {w : World} {b : Nat} {v : Value} (h : w.cell? ⟨b, 0, none⟩ = some v) : (loadVar 22 ⟨b, 0, none⟩).run Try.prog w = .ok v w := by
  simp [go_sem, h]
theorem load_int {w : World} {b : Nat} {v : Value} (h : w.cell? ⟨b, 0, none⟩ = some v) : (loadVar 3 ⟨b, 0, none⟩).run Try.prog w = .ok v w := by
  simp [go_sem, h]
theorem load_errno {w : World} {b : Nat} {v : Value} (h : w.cell? ⟨b, 0, none⟩ = some v) : (loadVar 25 ⟨b, 0, none⟩).run Try.prog w = .ok v w := by
  simp [go_sem, h]

theorem alloc_old (w : World) (o : Obj) {k : Nat} {c : Obj} (h : w.heap[k]? = some c) : (w.alloc o).heap[k]? = some c := (Below.heap_alloc w o k (Array.getElem?_eq_some_iff.1 h).1).trans h
theorem allocs3 (w : World) (a b c : Obj) : (((w.alloc a).alloc b).alloc c).heap[w.heap.size]? = some a ∧ (((w.alloc a).alloc b).alloc c).heap[w.heap.size + 1]? = some b ∧ (((w.alloc a).alloc b).alloc c).heap[w.heap.size + 1 + 1]? = some c := by
  refine ⟨alloc_old _ _ (alloc_old _ _ (heap_alloc_new w a)), alloc_old _ _ ?_, ?_⟩
  · have := heap_alloc_new (w.alloc a) b
    rwa [World.size_alloc] at this
  · have := heap_alloc_new ((w.alloc a).alloc b) c
    rwa [World.size_alloc, World.size_alloc] at this
theorem allocs5 (w : World) (a b c d e : Obj) : (((((w.alloc a).alloc b).alloc c).alloc d).alloc e).heap[w.heap.size]? = some a ∧ (((((w.alloc a).alloc b).alloc c).alloc d).alloc e).heap[w.heap.size + 1]? = some b ∧ (((((w.alloc a).alloc b).alloc c).alloc d).alloc e).heap[w.heap.size + 1 + 1]? = some c ∧
    (((((w.alloc a).alloc b).alloc c).alloc d).alloc e).heap[w.heap.size + 1 + 1 + 1]? = some d ∧ (((((w.alloc a).alloc b).alloc c).alloc d).alloc e).heap[w.heap.size + 1 + 1 + 1 + 1]? = some e := by
  obtain ⟨h0, h1, h2⟩ := allocs3 w a b c
  refine ⟨alloc_old _ _ (alloc_old _ _ h0), alloc_old _ _ (alloc_old _ _ h1), alloc_old _ _ (alloc_old _ _ h2), alloc_old _ _ ?_, ?_⟩
  · have := heap_alloc_new (((w.alloc a).alloc b).alloc c) d
    rwa [World.size_alloc, World.size_alloc, World.size_alloc] at this
  · have := heap_alloc_new ((((w.alloc a).alloc b).alloc c).alloc d) e
    rwa [World.size_alloc, World.size_alloc, World.size_alloc, World.size_alloc] at this
theorem below3 (w : World) (a b c : Obj) : Below w.heap.size w (((w.alloc a).alloc b).alloc c) := (((Below.refl _ w).alloc (Nat.le_refl _) _).alloc (by simp) _).alloc (by simp; omega) _
theorem below5 (w : World) (a b c d e : Obj) : Below w.heap.size w (((((w.alloc a).alloc b).alloc c).alloc d).alloc e) := ((below3 w a b c).alloc (by simp; omega) _).alloc (by simp; omega) _

theorem stores3 {w : World} {b0 b1 b2 : Nat} {u0 u1 u2 : Value} (v0 v1 v2 : Value) {t0 t1 t2 : TypeId} (h0 : w.heap[b0]? = some (.cells #[u0] t0 (0, 0))) (h1 : w.heap[b1]? = some (.cells #[u1] t1 (0, 0))) (h2 : w.heap[b2]? = some (.cells #[u2] t2 (0, 0))) (n1 : b1 ≠ b0) (n2 : b2 ≠ b0) (n3 : b2 ≠ b1) :
    (w.cell? ⟨b0, 0, none⟩ = some u0 ∧ w.frozen? ⟨b0, 0, none⟩ = false) ∧ ((w.setCell ⟨b0, 0, none⟩ v0).cell? ⟨b1, 0, none⟩ = some u1 ∧ (w.setCell ⟨b0, 0, none⟩ v0).frozen? ⟨b1, 0, none⟩ = false) ∧
    (((w.setCell ⟨b0, 0, none⟩ v0).setCell ⟨b1, 0, none⟩ v1).cell? ⟨b2, 0, none⟩ = some u2 ∧ ((w.setCell ⟨b0, 0, none⟩ v0).setCell ⟨b1, 0, none⟩ v1).frozen? ⟨b2, 0, none⟩ = false) ∧
    (((w.setCell ⟨b0, 0, none⟩ v0).setCell ⟨b1, 0, none⟩ v1).setCell ⟨b2, 0, none⟩ v2).heap[b0]? = some (.cells #[v0] t0 (0, 0)) ∧ (((w.setCell ⟨b0, 0, none⟩ v0).setCell ⟨b1, 0, none⟩ v1).setCell ⟨b2, 0, none⟩ v2).heap[b1]? = some (.cells #[v1] t1 (0, 0)) ∧
    (((w.setCell ⟨b0, 0, none⟩ v0).setCell ⟨b1, 0, none⟩ v1).setCell ⟨b2, 0, none⟩ v2).heap[b2]? = some (.cells #[v2] t2 (0, 0)) ∧ Only (fun i => i = b0 ∨ i = b1 ∨ i = b2) w (((w.setCell ⟨b0, 0, none⟩ v0).setCell ⟨b1, 0, none⟩ v1).setCell ⟨b2, 0, none⟩ v2) := by
  have o1 := Only.setCell w ⟨b0, 0, none⟩ v0
  have o2 := Only.setCell (w.setCell ⟨b0, 0, none⟩ v0) ⟨b1, 0, none⟩ v1
  have o3 := Only.setCell ((w.setCell ⟨b0, 0, none⟩ v0).setCell ⟨b1, 0, none⟩ v1) ⟨b2, 0, none⟩ v2
  have k0 := set_blk (j := 0) (u := v0) h0
  have k1 := o1.at h1 n1
  have k2 := o1.at h2 n2
  have l0 := o2.at k0 n1.symm
  have l1 := set_blk (j := 0) (u := v1) k1
  have l2 := o2.at k2 n3
  have m0 := o3.at l0 n2.symm
  have m1 := o3.at l1 n3.symm
  have m2 := set_blk (j := 0) (u := v2) l2
  exact ⟨⟨cell_of_blk h0 rfl, free_of_blk h0⟩, ⟨cell_of_blk k1 rfl, free_of_blk k1⟩, ⟨cell_of_blk l2 rfl, free_of_blk l2⟩, m0, m1, m2, ((o1.mono (fun i h => Or.inl h)).trans o2 (fun i _ h => .inr (.inl h))).trans o3 (fun i _ h => .inr (.inr h))⟩

/-- What Take leaves. -/
def TakeTo (bs : List Int) (k : Int) (w : World) (e : Ending) (w' : World) : Prop :=
  ∃ v, e = .returned (.tuple #[v, .int .i64 (tkN bs k : Int), .int .i64 (tkE bs k : Int)]) ∧ w'.ownsRow w.heap.size 32 3 v (tkL bs k).length (flat (tkL bs k)) ∧ Below w.heap.size w w'

theorem takeTo_no {bs : List Int} {k : Int} {w w' : World} {e : Nat} (he : tkE bs k = e) (h0 : e ≠ 0) (hb : Below w.heap.size w w') : TakeTo bs k w (.returned (.tuple #[.slice none 0 0, .int .i64 0, .int .i64 (e : Int)])) w' := by
  subst he
  have e1 : tkL bs k = [] := by unfold tkL; rw [if_neg h0]
  have e2 : tkN bs k = 0 := by unfold tkN; rw [if_neg h0]
  refine ⟨_, by rw [e2]; rfl, ?_, hb⟩
  rw [e1]
  exact World.ownsRow_nil _ _ _ _

theorem Only.fix {M : Nat → Prop} {w w' : World} {l : Nat} (h : Only (fun i => M i ∨ i = l) w w') (hl : w'.heap[l]? = w.heap[l]?) : Only M w w' :=
  ⟨h.os, h.tape, h.output, h.size, fun k hk hn => by
    by_cases e : k = l
    · subst e; exact hl
    · exact h.block k hk (fun hm => hm.elim hn e)⟩

/-- Between two rounds: the samples so far, the last one; of what lay when the iterator began only these and the Reader have turned. -/
structure TSt (W1 W : World) (B7 B8 g : Nat) (acc : List S) (v : Value) : Prop where
  only : Only (fun i => i = B7 ∨ i = B8 ∨ i = g) W1 W
  c7 : W.heap[B7]? = some (.cells #[v] 22 (0, 0))
  c8 : W.heap[B8]? = some (.cells (las acc).cells 32 (0, 0))
  own : W.ownsRow W1.heap.size 32 3 v acc.length (flat acc)

theorem own3_lt {w : World} {base n i : Nat} {e : TypeId} {v : Value} {xs : List Value} (h : w.ownsRow base e 3 v n xs) (hi : v.ownBlock = some i) : base ≤ i ∧ i < w.heap.size := by
  rcases h.2 with ⟨rfl, _⟩ | ⟨g, cap, cur, rfl, h1, hg, _⟩
  · simp [Value.ownBlock] at hi
  · simp [Value.ownBlock] at hi
    subst hi
    exact ⟨h1, (Array.getElem?_eq_some_iff.1 hg).1⟩
theorem own3_only {M : Nat → Prop} {w w' : World} {base n : Nat} {e : TypeId} {v : Value} {xs : List Value} (ho : w.ownsRow base e 3 v n xs) (h : Only M w w') (hn : ∀ k, v.ownBlock = some k → ¬ M k) : w'.ownsRow base e 3 v n xs := by
  refine ⟨ho.1, ?_⟩
  rcases ho.2 with h0 | ⟨g, cap, cur, rfl, h1, hg, rest⟩
  · exact .inl h0
  · exact .inr ⟨g, cap, cur, rfl, h1, h.at hg (hn g rfl), rest⟩
theorem own3_base {w : World} {base base' n : Nat} {e : TypeId} {v : Value} {xs : List Value} (h : w.ownsRow base e 3 v n xs) (hb : base' ≤ base) : w.ownsRow base' e 3 v n xs := by
  refine ⟨h.1, ?_⟩
  rcases h.2 with h0 | ⟨g, cap, cur, rfl, h1, rest⟩
  · exact .inl h0
  · exact .inr ⟨g, cap, cur, rfl, Nat.le_trans hb h1, rest⟩
theorem own3_slice {w : World} {base n : Nat} {e : TypeId} {v : Value} {xs : List Value} (h : w.ownsRow base e 3 v n xs) : ∃ A c, v = .slice A n c ∧ n ≤ c := by
  rcases h.2 with ⟨rfl, rfl⟩ | ⟨g, cap, cur, rfl, _, _, hc, _⟩
  · exact ⟨none, 0, rfl, Nat.le_refl _⟩
  · exact ⟨_, cap, rfl, hc⟩

theorem new3 (w : World) (s : S) (t : TypeId) : ∀ j u, [Value.int .i64 s.t, .int .i64 s.x, .int .i64 s.y][j]? = some u → (w.alloc (.cells #[.int .i64 s.t, .int .i64 s.x, .int .i64 s.y] t)).cell? ((⟨w.heap.size, 0, none⟩ : Addr).add j) = some u := by
  intro j u hj
  have q := heap_alloc_new w (.cells #[.int .i64 s.t, .int .i64 s.x, .int .i64 s.y] t)
  have hadd : (⟨w.heap.size, 0, none⟩ : Addr).add j = ⟨w.heap.size, j, none⟩ := by unfold Addr.add; split <;> simp_all
  rw [hadd]
  refine cell_of_blk q ?_
  simpa using hj
theorem info_smp : (Try.prog.info? 32).map (fun i => (i.zero, i.size, i.bytes)) = some (some (.agg #[.int .i64 0, .int .i64 0, .int .i64 0]), 3, 24) := by kernel_rfl

set_option maxHeartbeats 3200000 in
set_option maxRecDepth 100000 in
theorem take_any (A : Option Addr) (n c : Nat) (bs : List Int) (k : Int) (w : World) (h : Row .u8 w w.heap.size A n bs) (hnil : A = none → c = 0) (hn : n ≤ 4398046511104) (hbyt : ∀ x ∈ bs, 0 ≤ x ∧ x ≤ 255) :
    Calls Try.prog 12 #[.slice A n c, .int .i64 k] w (TakeTo bs k w) := by
  have H := Lib.hid h
  have HNIL := Lib.hid hnil
  have HN := Lib.hid hn
  have HY := Lib.hid hbyt
  clear h hnil hn hbyt
  refine (callsIn_wide (n := 9)).1 ?_
  refine callsIn_of_wp_marks Try.func12 rfl trivial ?_
  simp only [Try.ntmps12, List.size_toArray, List.length_cons, List.length_nil, Nat.reduceAdd, Nat.reduceSub, Array.replicate_succ, Array.replicate_zero, List.push_toArray, List.append_toArray, List.nil_append, List.cons_append]
  by_cases hbad : k < 0 ∨ 2048 < k
  · have he : tkE bs k = 3 := by unfold tkE; rw [if_pos hbad]
    by_cases h0 : k < 0
    · have hd0 : decide (k < 0) = true := decide_eq_true h0
      gi_wp2
      obtain ⟨a0, a1, a2⟩ := allocs3 w (.cells #[.slice none 0 0] 22) (.cells #[.int .i64 0] 3) (.cells #[.int .i64 3] 25)
      exact ⟨_, results_cells3 rfl _ _ rfl rfl rfl (load_slice (cell_of_blk a0 rfl)) (load_int (cell_of_blk a1 rfl)) (load_errno (cell_of_blk a2 rfl)), takeTo_no (e := 3) he (by omega) (below3 _ _ _ _)⟩
    · have hd0 : decide (k < 0) = false := decide_eq_false h0
      have hd1 : decide (2048 < k) = true := decide_eq_true (by omega)
      gi_wp2
      obtain ⟨a0, a1, a2⟩ := allocs3 w (.cells #[.slice none 0 0] 22) (.cells #[.int .i64 0] 3) (.cells #[.int .i64 3] 25)
      exact ⟨_, results_cells3 rfl _ _ rfl rfl rfl (load_slice (cell_of_blk a0 rfl)) (load_int (cell_of_blk a1 rfl)) (load_errno (cell_of_blk a2 rfl)), takeTo_no (e := 3) he (by omega) (below3 _ _ _ _)⟩
  · have hd0 : decide (k < 0) = false := decide_eq_false (by omega)
    have hd1 : decide (2048 < k) = false := decide_eq_false (by omega)
    obtain ⟨q, rfl⟩ := Int.eq_ofNat_of_zero_le (show 0 ≤ k by omega)
    have hq : q ≤ 2048 := by omega
    have heE : tkE bs (q : Int) = (tk q [] bs).2.2 := by unfold tkE; rw [if_neg hbad]; rfl
    have HEE := Lib.hid heE
    clear heE hbad hd0 hd1
    have hd0 : decide ((q : Int) < 0) = false := decide_eq_false (by omega)
    have hd1 : decide (2048 < (q : Int)) = false := decide_eq_false (by omega)
    obtain ⟨f0, f1, f2, f7, f8⟩ := allocs5 w (.cells #[.slice none 0 0] 22) (.cells #[.int .i64 0] 3) (.cells #[.int .i64 0] 25) (.cells #[.slice none 0 0] 22) (.cells #[.int .i64 0, .int .i64 0, .int .i64 0] 32)
    have hb5 := below5 w (.cells #[.slice none 0 0] 22) (.cells #[.int .i64 0] 3) (.cells #[.int .i64 0] 25) (.cells #[.slice none 0 0] 22) (.cells #[.int .i64 0, .int .i64 0, .int .i64 0] 32)
    have hs5 : (((((w.alloc (.cells #[.slice none 0 0] 22)).alloc (.cells #[.int .i64 0] 3)).alloc (.cells #[.int .i64 0] 25)).alloc (.cells #[.slice none 0 0] 22)).alloc (.cells #[.int .i64 0, .int .i64 0, .int .i64 0] 32)).heap.size = w.heap.size + 5 := by simp
    have F0 := Lib.hid f0
    have F1 := Lib.hid f1
    have F2 := Lib.hid f2
    have F7 := Lib.hid f7
    have F8 := Lib.hid f8
    have HB5 := Lib.hid hb5
    clear f0 f1 f2 f7 f8 hb5
    gi_wp2_with fail
    generalize (((((w.alloc (.cells #[.slice none 0 0] 22)).alloc (.cells #[.int .i64 0] 3)).alloc (.cells #[.int .i64 0] 25)).alloc (.cells #[.slice none 0 0] 22)).alloc (.cells #[.int .i64 0, .int .i64 0, .int .i64 0] 32)) = w5 at F0 F1 F2 F7 F8 HB5 hs5 ⊢
    refine ⟨trivial, ?_⟩
    refine (callsIn_wide.2 (readL A n c w.heap.size bs w5 (H.out.below HB5.out) HB5.out.size HNIL.out HN.out HY.out)).mono ?_
    rintro e6 w6 ⟨g, rfl, hrd6, hb6⟩
    have HRD6 := Lib.hid hrd6
    have HB6 := Lib.hid hb6
    have hglo := hrd6.low
    have hgl6 := hrd6.lt
    clear hrd6 hb6
    gi_wp2_with fail
    refine ⟨trivial, ?_⟩
    refine (callsIn_wide.2 (read_any g (q : Int) w6)).mono ?_
    rintro e7 w7' ⟨rfl, rfl⟩
    gi_wp2_with fail
    have hq7 : ((w6.alloc (.cells #[.pointer (some ⟨g, 0, none⟩)] 46)).alloc (.cells #[.int .i64 (q : Int)] 3)).heap[w6.heap.size]? = some (.cells #[.pointer (some ⟨g, 0, none⟩)] 46 (0, 0)) := alloc_old _ _ (heap_alloc_new w6 _)
    have hq8 : ((w6.alloc (.cells #[.pointer (some ⟨g, 0, none⟩)] 46)).alloc (.cells #[.int .i64 (q : Int)] 3)).heap[w6.heap.size + 1]? = some (.cells #[.int .i64 (q : Int)] 3 (0, 0)) := by
      have := heap_alloc_new (w6.alloc (.cells #[.pointer (some ⟨g, 0, none⟩)] 46)) (.cells #[.int .i64 (q : Int)] 3)
      rwa [World.size_alloc] at this
    have hb7 : Below w6.heap.size w6 ((w6.alloc (.cells #[.pointer (some ⟨g, 0, none⟩)] 46)).alloc (.cells #[.int .i64 (q : Int)] 3)) := ((Below.refl _ w6).alloc (Nat.le_refl _) _).alloc (by simp) _
    have hs7 : ((w6.alloc (.cells #[.pointer (some ⟨g, 0, none⟩)] 46)).alloc (.cells #[.int .i64 (q : Int)] 3)).heap.size = w6.heap.size + 2 := by simp
    generalize ((w6.alloc (.cells #[.pointer (some ⟨g, 0, none⟩)] 46)).alloc (.cells #[.int .i64 (q : Int)] 3)) = w7 at hq7 hq8 hb7 hs7 ⊢
    refine range_on (gf := 33) (lb := #[.pointer (some ⟨w6.heap.size + 1, 0, none⟩), .pointer (some ⟨w6.heap.size, 0, none⟩)]) rfl (enters_of Try.func33 (by kernel_rfl) rfl) ?_
    intro fn rec W1 hrec hl hd hs1 hb1
    rw [hs7] at hl hd hs1 hb1 ⊢
    have hb57 : Below w5.heap.size w5 W1 := HB6.out.trans ((hb7.trans (hb1.mono (by omega))).mono HB6.out.size)
    have hb61 : Below w6.heap.size w6 W1 := hb7.trans (hb1.mono (by omega))
    have hlo : w5.heap.size ≤ w6.heap.size := HB6.out.size
    have G0 := Lib.hid ((hb57.block _ (Array.getElem?_eq_some_iff.1 F0.out).1).trans F0.out)
    have G1 := Lib.hid ((hb57.block _ (Array.getElem?_eq_some_iff.1 F1.out).1).trans F1.out)
    have G2 := Lib.hid ((hb57.block _ (Array.getElem?_eq_some_iff.1 F2.out).1).trans F2.out)
    have G7 := Lib.hid ((hb57.block _ (Array.getElem?_eq_some_iff.1 F7.out).1).trans F7.out)
    have G8 := Lib.hid ((hb57.block _ (Array.getElem?_eq_some_iff.1 F8.out).1).trans F8.out)
    have GR := Lib.hid ((hb1.block w6.heap.size (by omega)).trans hq7)
    have GN := Lib.hid ((hb1.block (w6.heap.size + 1) (by omega)).trans hq8)
    have GL := Lib.hid hl
    have GD := Lib.hid hd
    have HRD1 := Lib.hid (HRD6.out.below hb61)
    have HB1 : Hid (Below w.heap.size w W1) := HB5.out.trans (hb57.mono HB5.out.size)
    clear F0 F1 F2 F7 F8 hq7 hq8 hb7 hb1 hl hd hb57 hb61 HB6 HRD6 HB5
    have hT0 : TSt W1 W1 (w.heap.size + 1 + 1 + 1) (w.heap.size + 1 + 1 + 1 + 1) g [] (.slice none 0 0) := ⟨Only.refl _ _, G7.out, G8.out, World.ownsRow_nil _ _ _ _⟩
    refine (read_run 7 (w6.heap.size + 2 + 1) (w6.heap.size + 1) w6.heap.size g w5.heap.size q bs (fun acc W => ∃ v, TSt W1 W (w.heap.size + 1 + 1 + 1) (w.heap.size + 1 + 1 + 1 + 1) g acc v)
      (fun W => W.heap[w6.heap.size + 2 + 1]? = some (.loop (rec .done (some .ret))) ∧ W.heap[w.heap.size]? = some (.cells #[.slice none 0 0] 22 (0, 0)) ∧ W.heap[w.heap.size + 1]? = some (.cells #[.int .i64 0] 3 (0, 0)) ∧ W.heap[w.heap.size + 1 + 1]? = some (.cells #[.int .i64 2] 25 (0, 0)) ∧ W.heap[w6.heap.size + 2]? = some (.deferred (some [])) ∧ Below w.heap.size w W)
      W1 hq (cell_of_blk GN.out rfl) (fun acc W ⟨v, hv⟩ => cell_of_blk (hv.only.at GR.out (by omega)) rfl)
      (fun acc W W' ⟨v, hv⟩ hO => ⟨v, hv.only.trans hO (fun i _ h => .inr (.inr h)), hO.at hv.c7 (by omega), hO.at hv.c8 (by omega), own3_only hv.own hO (fun i hi h => by have := (own3_lt hv.own hi).1; omega)⟩) ?round ⟨_, hT0⟩ HRD1.out).mono ?done
    case done =>
      rintro e2 W2 ⟨hret, ⟨acc, xs, htk, hgood, ⟨v, hv⟩, hrd⟩ | ⟨acc, xs, er, her, htk, ⟨v, hv⟩, hrd⟩ | ⟨htk, hl2, x0, x1, x2, hd2, hb2⟩⟩
      · have hO3 := Only.putObj W2 (w6.heap.size + 2 + 1) (.loop (rec .exhausted none))
        refine ⟨hret, .inl ⟨hv.only.at GL.out (by omega), ?_⟩⟩
        have y0 := hO3.at (hv.only.at G0.out (by omega)) (by omega)
        have y1 := hO3.at (hv.only.at G1.out (by omega)) (by omega)
        have y2 := hO3.at (hv.only.at G2.out (by omega)) (by omega)
        have y7 := hO3.at hv.c7 (by omega)
        have hd3 := hO3.at (hv.only.at GD.out (by omega)) (by omega)
        have hrd3 := hrd.only hO3 (fun i h1 h2 => by omega)
        have hb1w : Below w.heap.size w W2 := HB1.out.trans (hv.only.below HB1.out.size (fun i hi => by omega))
        have hb3 : Below w.heap.size w (W2.putObj (w6.heap.size + 2 + 1) (.loop (rec .exhausted none))) := hb1w.trans (hO3.below hb1w.size (fun i hi => by omega))
        have hown3 := own3_only hv.own hO3 (fun i hi h => by have := (own3_lt hv.own hi).1; omega)
        obtain ⟨A', c', rfl, -⟩ := own3_slice hv.own
        have htl := tk_ok q [] bs HY.out good_nil (by rw [htk])
        rw [htk] at htl
        have hlq : acc.length = q := by simpa using htl.2.1
        have HEQ := Lib.hid htk
        have HGD := Lib.hid hgood
        have HLQ := Lib.hid hlq
        clear hO3 hv hrd htl htk hgood hret hrec hb1w hlq
        generalize W2.putObj (w6.heap.size + 2 + 1) (.loop (rec .exhausted none)) = W3 at y0 y1 y2 y7 hd3 hrd3 hb3 hown3 ⊢
        have Y0 := Lib.hid y0
        have Y1 := Lib.hid y1
        have Y2 := Lib.hid y2
        have Y7 := Lib.hid y7
        have HD3 := Lib.hid hd3
        have HRD3 := Lib.hid hrd3
        have HB3 := Lib.hid hb3
        have HO3 := Lib.hid hown3
        have m0 : W3.cell? ⟨w.heap.size + 1 + 1 + 1, 0, none⟩ = some (.slice A' acc.length c') := cell_of_blk y7 rfl
        clear y0 y1 y2 y7 hd3 hrd3 hb3 hown3
        gi_wp2_with fail
        refine ⟨trivial, ?_⟩
        refine (callsIn_wide.2 (errorR g _ _ _ HRD3.out.rdr)).mono ?_
        rintro e8 w8 ⟨rfl, rfl⟩
        gi_wp2_with fail
        refine wpIn_wide.2 ?_
        have HWR : Hid (∀ wx, Below W3.heap.size W3 wx → Calls Try.prog 16 #[.slice A' acc.length c'] wx fun e w' => ∃ v, e = .returned v ∧ w'.ownsRow wx.heap.size 5 1 v (enc acc).length ((enc acc).map (Value.int .u8)) ∧ Below wx.heap.size wx w') :=
          fun wx hx => written_any A' acc.length c' acc wx (((SRow.of_own HO3.out (fun s hs => may_ok (good_may HGD.out hs))).below hx).more hx.size) (fun s hs => good_may HGD.out hs) (by have := HLQ.out; omega)
        have keep : ∀ wx, Below W3.heap.size W3 wx → wx.cell? ⟨w.heap.size + 1 + 1 + 1, 0, none⟩ = some (.slice A' acc.length c') := fun wx hx => cell_of_blk ((hx.block _ (Array.getElem?_eq_some_iff.1 Y7.out).1).trans Y7.out) rfl
        have st : ∀ wx, Below W3.heap.size W3 wx → ∀ v, (wx.cell? ⟨w.heap.size, 0, none⟩ = some (.slice none 0 0) ∧ wx.frozen? ⟨w.heap.size, 0, none⟩ = false) ∧ ((wx.setCell ⟨w.heap.size, 0, none⟩ (.slice A' acc.length c')).cell? ⟨w.heap.size + 1, 0, none⟩ = some (.int .i64 0) ∧ (wx.setCell ⟨w.heap.size, 0, none⟩ (.slice A' acc.length c')).frozen? ⟨w.heap.size + 1, 0, none⟩ = false) ∧
            (((wx.setCell ⟨w.heap.size, 0, none⟩ (.slice A' acc.length c')).setCell ⟨w.heap.size + 1, 0, none⟩ v).cell? ⟨w.heap.size + 1 + 1, 0, none⟩ = some (.int .i64 0) ∧ ((wx.setCell ⟨w.heap.size, 0, none⟩ (.slice A' acc.length c')).setCell ⟨w.heap.size + 1, 0, none⟩ v).frozen? ⟨w.heap.size + 1 + 1, 0, none⟩ = false) ∧
            (wx.setCell ⟨w.heap.size, 0, none⟩ (.slice A' acc.length c')).cell? ⟨w.heap.size + 1 + 1 + 1, 0, none⟩ = some (.slice A' acc.length c') ∧ ((wx.setCell ⟨w.heap.size, 0, none⟩ (.slice A' acc.length c')).setCell ⟨w.heap.size + 1, 0, none⟩ v).cell? ⟨w.heap.size + 1 + 1 + 1, 0, none⟩ = some (.slice A' acc.length c') ∧
            (((wx.setCell ⟨w.heap.size, 0, none⟩ (.slice A' acc.length c')).setCell ⟨w.heap.size + 1, 0, none⟩ v).setCell ⟨w.heap.size + 1 + 1, 0, none⟩ (.int .i64 0)).cell? ⟨w.heap.size + 1 + 1 + 1, 0, none⟩ = some (.slice A' acc.length c') := by
          intro wx hx v
          have x0 := (hx.block _ (Array.getElem?_eq_some_iff.1 Y0.out).1).trans Y0.out
          have x1 := (hx.block _ (Array.getElem?_eq_some_iff.1 Y1.out).1).trans Y1.out
          have x2 := (hx.block _ (Array.getElem?_eq_some_iff.1 Y2.out).1).trans Y2.out
          have x7 := (hx.block _ (Array.getElem?_eq_some_iff.1 Y7.out).1).trans Y7.out
          obtain ⟨p0, p1, p2, -⟩ := stores3 (.slice A' acc.length c') v (.int .i64 0) x0 x1 x2 (by omega) (by omega) (by omega)
          have n1 := (Only.setCell wx ⟨w.heap.size, 0, none⟩ (.slice A' acc.length c')).at x7 (by show ¬ _ = w.heap.size; omega)
          have n2 := (Only.setCell _ ⟨w.heap.size + 1, 0, none⟩ v).at n1 (by show ¬ _ = w.heap.size + 1; omega)
          have n3 := (Only.setCell _ ⟨w.heap.size + 1 + 1, 0, none⟩ (.int .i64 0)).at n2 (by show ¬ _ = w.heap.size + 1 + 1; omega)
          exact ⟨p0, p1, p2, cell_of_blk n1 rfl, cell_of_blk n2 rfl, cell_of_blk n3 rfl⟩
        have HST := Lib.hid st
        have HKEEP := Lib.hid keep
        have md : W3.drew.cell? ⟨w.heap.size + 1 + 1 + 1, 0, none⟩ = some (.slice A' acc.length c') := m0
        have HW16 := Lib.hid (HWR.out W3.drew ((Below.refl _ _).drew))
        clear keep st HWR
        refine wp_norm fun C hCC => ?_
        go_region_held3  (fun wx => wx.cell? ⟨w.heap.size + 1 + 1 + 1, 0, none⟩ = some (.slice A' acc.length c')) (first | exact md | exact m1 | exact n1 | exact n2 | exact n3) (first
          | (go_at_call 16; refine HW16.out.mono ?_; rintro e9 w9 ⟨v9, rfl, hown9, hb9⟩; obtain ⟨A9, c9, rfl, -⟩ := own_nil hown9; have HB9 := Lib.hid (((Below.refl W3.heap.size W3).drew).trans hb9); have m1 := HKEEP.out _ HB9.out; obtain ⟨⟨p0, p1⟩, ⟨p2, p3⟩, ⟨p4, p5⟩, n1, n2, n3⟩ := HST.out _ HB9.out (.int .i64 ((enc acc).length : Int)); clear hown9 hb9))
        refine hCC _ _ ?_
        have x0 := (HB9.out.block _ (Array.getElem?_eq_some_iff.1 Y0.out).1).trans Y0.out
        have x1 := (HB9.out.block _ (Array.getElem?_eq_some_iff.1 Y1.out).1).trans Y1.out
        have x2 := (HB9.out.block _ (Array.getElem?_eq_some_iff.1 Y2.out).1).trans Y2.out
        have xd := (HB9.out.block _ (Array.getElem?_eq_some_iff.1 HD3.out).1).trans HD3.out
        obtain ⟨-, -, -, z0, z1, z2, hOs⟩ := stores3 (.slice A' acc.length c') (.int .i64 ((enc acc).length : Int)) (.int .i64 0) x0 x1 x2 (by omega) (by omega) (by omega)
        have hd4 := hOs.at xd (by omega)
        have hown9 : w9.ownsRow W1.heap.size 32 3 (.slice A' acc.length c') acc.length (flat acc) := own3_only HO3.out (M := fun _ => False) (Only.of_below HB9.out) (fun _ _ h => h)
        have hown4 := own3_only hown9 hOs (fun i hi h => by have := (own3_lt hown9 hi).1; omega)
        have hb9w := HB3.out.trans (HB9.out.mono HB3.out.size)
        have hb4 := hb9w.trans (hOs.below hb9w.size (fun i hi => by omega))
        have HD4 := Lib.hid hd4
        have HO4 := Lib.hid hown4
        have HB4 := Lib.hid hb4
        have Z0 := Lib.hid z0
        have Z1 := Lib.hid z1
        have Z2 := Lib.hid z2
        clear x0 x1 x2 xd z0 z1 z2 hOs hd4 hown9 hown4 hb9w hb4 p0 p1 p2 p3 p4 p5 n1 n2 n3 m1 m0 md
        gi_wp2
        refine ⟨by simp, .inl ⟨_, _, rfl, run_takeDeferred HD4.out, ?_⟩⟩
        have hO5 := Only.putObj (((w9.setCell ⟨w.heap.size, 0, none⟩ (.slice A' acc.length c')).setCell ⟨w.heap.size + 1, 0, none⟩ (.int .i64 ((enc acc).length : Int))).setCell ⟨w.heap.size + 1 + 1, 0, none⟩ (.int .i64 0)) (w6.heap.size + 2) (.deferred none)
        have e1 : tkE bs (q : Int) = 0 := HEE.out.trans (by rw [HEQ.out])
        have e2 : tkL bs (q : Int) = acc := by unfold tkL; rw [if_pos e1, Int.toNat_natCast, HEQ.out]
        have e3 : tkN bs (q : Int) = (enc acc).length := by unfold tkN; rw [if_pos e1, Int.toNat_natCast, HEQ.out]
        refine ⟨_, results_cells3 rfl _ _ rfl rfl rfl (load_slice (cell_of_blk (hO5.at Z0.out (by omega)) rfl)) (load_int (cell_of_blk (hO5.at Z1.out (by omega)) rfl)) (load_errno (v := .int .i64 0) (cell_of_blk (hO5.at Z2.out (by omega)) rfl)), ?_⟩
        refine ⟨.slice A' acc.length c', by rw [e1, e3]; rfl, ?_, HB4.out.trans (hO5.below HB4.out.size (fun i hi => by omega))⟩
        rw [e2]
        exact own3_base (own3_only HO4.out hO5 (fun i hi h => by have := (own3_lt HO4.out hi).1; omega)) HB1.out.size
      · have hO3 := Only.putObj W2 (w6.heap.size + 2 + 1) (.loop (rec .exhausted none))
        refine ⟨hret, .inl ⟨hv.only.at GL.out (by omega), ?_⟩⟩
        have y0 := hO3.at (hv.only.at G0.out (by omega)) (by omega)
        have y1 := hO3.at (hv.only.at G1.out (by omega)) (by omega)
        have y2 := hO3.at (hv.only.at G2.out (by omega)) (by omega)
        have hd3 := hO3.at (hv.only.at GD.out (by omega)) (by omega)
        have hrd3 := hrd.only hO3 (fun i h1 h2 => by omega)
        have hb3 : Below w.heap.size w (W2.putObj (w6.heap.size + 2 + 1) (.loop (rec .exhausted none))) := (HB1.out.trans (hv.only.below HB1.out.size (fun i hi => by omega))).trans (hO3.below (Nat.le_trans HB1.out.size hv.only.size) (fun i hi => by omega))
        generalize W2.putObj (w6.heap.size + 2 + 1) (.loop (rec .exhausted none)) = W3 at y0 y1 y2 hd3 hrd3 hb3 ⊢
        obtain ⟨⟨p0, p1⟩, ⟨p2, p3⟩, ⟨p4, p5⟩, z0, z1, z2, hOs⟩ := stores3 (.slice none 0 0) (.int .i64 0) (.int .i64 (er : Int)) y0 y1 y2 (by omega) (by omega) (by omega)
        have hd4 := hOs.at hd3 (by omega)
        have hb4 := hb3.trans (hOs.below hb3.size (fun i hi => by omega))
        have Z0 := Lib.hid z0
        have Z1 := Lib.hid z1
        have Z2 := Lib.hid z2
        have HD4 := Lib.hid hd4
        have HB4 := Lib.hid hb4
        have HRD3 := Lib.hid hrd3
        have HE := Lib.hid (HEE.out.trans htk)
        have HER := Lib.hid her
        have hne : ((er : Int) == 0) = false := beq_eq_false_iff_ne.2 (by omega)
        clear hO3 hv hrd hrd3 hd3 hb3 z0 z1 z2 hOs hd4 hb4 htk her hret hrec y0 y1 y2
        gi_wp2_with fail
        refine ⟨trivial, ?_⟩
        refine (callsIn_wide.2 (errorR g _ _ _ HRD3.out.rdr)).mono ?_
        rintro e8 w8 ⟨rfl, rfl⟩
        gi_wp2
        refine ⟨by simp, .inl ⟨_, _, rfl, run_takeDeferred HD4.out, ?_⟩⟩
        have hO5 := Only.putObj (((W3.setCell ⟨w.heap.size, 0, none⟩ (.slice none 0 0)).setCell ⟨w.heap.size + 1, 0, none⟩ (.int .i64 0)).setCell ⟨w.heap.size + 1 + 1, 0, none⟩ (.int .i64 (er : Int))) (w6.heap.size + 2) (.deferred none)
        exact ⟨_, results_cells3 rfl _ _ rfl rfl rfl (load_slice (cell_of_blk (hO5.at Z0.out (by omega)) rfl)) (load_int (cell_of_blk (hO5.at Z1.out (by omega)) rfl)) (load_errno (cell_of_blk (hO5.at Z2.out (by omega)) rfl)), takeTo_no HE.out HER.out (HB4.out.trans (hO5.below HB4.out.size (fun i hi => by omega)))⟩
      · have hO3 := Only.putObj W2 (w6.heap.size + 2 + 1) (.loop (rec .exhausted (some .ret)))
        refine ⟨hret, .inr ⟨hl2, ?_⟩⟩
        have y0 := hO3.at x0 (by omega)
        have y1 := hO3.at x1 (by omega)
        have y2 := hO3.at x2 (by omega)
        have hd3 := hO3.at hd2 (by omega)
        have hb3 := hb2.trans (hO3.below hb2.size (fun i hi => by omega))
        clear hrec hO3 hl2
        generalize W2.putObj (w6.heap.size + 2 + 1) (.loop (rec .exhausted (some .ret))) = W3 at y0 y1 y2 hd3 hb3 ⊢
        gi_wp2
        refine ⟨by simp, .inl ⟨_, _, rfl, run_takeDeferred hd3, ?_⟩⟩
        have hO5 := Only.putObj W3 (w6.heap.size + 2) (.deferred none)
        refine ⟨_, results_cells3 rfl _ _ rfl rfl rfl (load_slice (cell_of_blk (hO5.at y0 (by omega)) rfl)) (load_int (cell_of_blk (hO5.at y1 (by omega)) rfl)) (load_errno (v := .int .i64 2) (cell_of_blk (hO5.at y2 (by omega)) rfl)), ?_⟩
        exact takeTo_no (e := 2) (HEE.out.trans htk) (by omega) (hb3.trans (hO5.below hb3.size (fun i hi => by omega)))
    case round =>
      rintro acc xs W hlen hgood hbx her ⟨v, hv⟩ hrd
      obtain ⟨-, t1, t2, t3, t4, t5, t6⟩ := trip_ok hbx her
      have hla : 0 ≤ (las acc).t ∧ (las acc).t ≤ 1099511627776 ∧ 0 ≤ (las acc).x ∧ (las acc).x < 67108864 ∧ 0 ≤ (las acc).y ∧ (las acc).y < 67108864 := by
        rcases las_may (l := acc) (fun u hu => good_may hgood hu) with ha | ha
        · exact may_iff.1 ha
        · rw [ha]; unfold zS; simp
      obtain ⟨s, hs⟩ : ∃ s, nx acc xs = s := ⟨_, rfl⟩
      have w1 : IntKind.i64.wrap ((las acc).t + tT xs) = s.t := (IntWalk.i64_in _ ⟨by omega, by omega⟩).trans (by rw [← hs]; rfl)
      have w2 : IntKind.i64.wrap ((las acc).x + tX xs) = s.x := (IntWalk.i64_in _ ⟨by omega, by omega⟩).trans (by rw [← hs]; rfl)
      have w3 : IntKind.i64.wrap ((las acc).y + tY xs) = s.y := (IntWalk.i64_in _ ⟨by omega, by omega⟩).trans (by rw [← hs]; rfl)
      rw [hs]
      clear hla t1 t2 t3 t4 t5 t6
      refine round_on hrec (hv.only.at GL.out (by omega)) rfl ?_
      unfold tripV
      have HRD := Lib.hid hrd
      have HV := Lib.hid hv
      have HGD := Lib.hid hgood
      have hWs := hv.only.size
      obtain ⟨A', c', rfl, -⟩ := own3_slice hv.own
      have hvlt : ∀ i, (Value.slice A' acc.length c').ownBlock = some i → W1.heap.size ≤ i ∧ i < W.heap.size := fun i hi => own3_lt hv.own hi
      have HVLT := Lib.hid hvlt
      clear hrd hv hgood hvlt hT0 hrec hbx her
      gi_wp2
      refine ⟨alloc_old _ _ (HV.out.only.at GL.out (by omega)), ?_⟩
      have hP := Only.putObj (W.alloc (.cells #[.int .i64 (tT xs), .int .i64 (tX xs), .int .i64 (tY xs)] 52)) (w6.heap.size + 2 + 1) (.loop (rec .busy none))
      have hstp := hP.at (heap_alloc_new W (.cells #[.int .i64 (tT xs), .int .i64 (tX xs), .int .i64 (tY xs)] 52)) (by omega)
      have hbusy : ((W.alloc (.cells #[.int .i64 (tT xs), .int .i64 (tX xs), .int .i64 (tY xs)] 52)).putObj (w6.heap.size + 2 + 1) (.loop (rec .busy none))).heap[w6.heap.size + 2 + 1]? = some (.loop (rec .busy none)) := World.putObj_heap_same (by rw [World.size_alloc]; omega)
      have hC : Only (fun i => i = w.heap.size + 1 + 1 + 1 ∨ i = w.heap.size + 1 + 1 + 1 + 1 ∨ i = w6.heap.size + 2 + 1 ∨ (Value.slice A' acc.length c').ownBlock = some i) W ((W.alloc (.cells #[.int .i64 (tT xs), .int .i64 (tX xs), .int .i64 (tY xs)] 52)).putObj (w6.heap.size + 2 + 1) (.loop (rec .busy none))) := (Only.alloc W _).trans hP (fun i _ h => .inr (.inr (.inl h)))
      have hc7 := hP.at (alloc_old _ _ HV.out.c7) (by omega)
      have hc8 := hP.at (alloc_old _ _ HV.out.c8) (by omega)
      have hown := own3_only (own3_only HV.out.own (Only.alloc (M := fun _ => False) W (.cells #[.int .i64 (tT xs), .int .i64 (tX xs), .int .i64 (tY xs)] 52)) (fun _ _ h => h)) hP (fun i hi h => by have := (HVLT.out i hi).1; omega)
      have HSTP := Lib.hid hstp
      have HBUSY := Lib.hid hbusy
      have HCC := Lib.hid hC
      have HC7 := Lib.hid hc7
      have HC8 := Lib.hid hc8
      have HOWN := Lib.hid hown
      have hszb : W.heap.size < ((W.alloc (.cells #[.int .i64 (tT xs), .int .i64 (tX xs), .int .i64 (tY xs)] 52)).putObj (w6.heap.size + 2 + 1) (.loop (rec .busy none))).heap.size := by simp
      clear hP hstp hbusy hC hc7 hc8 hown
      generalize (W.alloc (.cells #[.int .i64 (tT xs), .int .i64 (tX xs), .int .i64 (tY xs)] 52)).putObj (w6.heap.size + 2 + 1) (.loop (rec .busy none)) = Wb at HSTP HBUSY HCC HC7 HC8 HOWN hszb ⊢
      have s0 := cell_of_blk (j := 0) HSTP.out rfl
      have s1 := cell_of_blk (j := 1) HSTP.out rfl
      have s2 := cell_of_blk (j := 2) HSTP.out rfl
      obtain ⟨⟨y0, y1, y2⟩, f0, f1, f2⟩ := three HC8.out
      obtain ⟨⟨g1, e1⟩, ⟨g2, e2⟩, hq, hO⟩ := sets (s := s) HC8.out
      have hc7' := hO.at HC7.out (by omega)
      have k7 := cell_of_blk (j := 0) hc7' rfl
      obtain ⟨⟨z0, z1, z2⟩, -⟩ := three hq
      have hown' := own3_only HOWN.out hO (fun i hi h => by have := (HVLT.out i hi).1; omega)
      have HC8' := Lib.hid hq
      have HC7' := Lib.hid hc7'
      have HOWN' := Lib.hid hown'
      have HBUSY' := Lib.hid (hO.at HBUSY.out (by omega))
      have HCC' := Lib.hid (HCC.out.trans hO (fun i _ h => .inr (.inl h)))
      have hszc := hO.size
      have HF : Hid (Calls Try.prog 15 #[.slice A' acc.length c', .agg #[.int .i64 s.t, .int .i64 s.x, .int .i64 s.y]] (((Wb.setCell ⟨w.heap.size + 1 + 1 + 1 + 1, 0, none⟩ (.int .i64 s.t)).setCell ⟨w.heap.size + 1 + 1 + 1 + 1, 1, none⟩ (.int .i64 s.x)).setCell ⟨w.heap.size + 1 + 1 + 1 + 1, 2, none⟩ (.int .i64 s.y)) fun e w' => e = .returned (.bool (okp acc s)) ∧ Below (((Wb.setCell ⟨w.heap.size + 1 + 1 + 1 + 1, 0, none⟩ (.int .i64 s.t)).setCell ⟨w.heap.size + 1 + 1 + 1 + 1, 1, none⟩ (.int .i64 s.x)).setCell ⟨w.heap.size + 1 + 1 + 1 + 1, 2, none⟩ (.int .i64 s.y)).heap.size (((Wb.setCell ⟨w.heap.size + 1 + 1 + 1 + 1, 0, none⟩ (.int .i64 s.t)).setCell ⟨w.heap.size + 1 + 1 + 1 + 1, 1, none⟩ (.int .i64 s.x)).setCell ⟨w.heap.size + 1 + 1 + 1 + 1, 2, none⟩ (.int .i64 s.y)) w') :=
        follows_any A' acc.length c' acc s _ (SRow.of_own HOWN'.out (fun u hu => may_ok (good_may HGD.out hu))) (by omega)
      clear hq hO hc7' hown'
      gi_wp2_with fail
      refine ⟨trivial, ?_⟩
      refine (CallsIn.inRound _ (callsIn_wide.2 HF.out)).mono ?_
      rintro e9 w9 ⟨rfl, hb9⟩
      have D7 := Lib.hid ((hb9.block _ (Array.getElem?_eq_some_iff.1 HC7'.out).1).trans HC7'.out)
      have D8 := Lib.hid ((hb9.block _ (Array.getElem?_eq_some_iff.1 HC8'.out).1).trans HC8'.out)
      have DB := Lib.hid ((hb9.block _ (Array.getElem?_eq_some_iff.1 HBUSY'.out).1).trans HBUSY'.out)
      have DO := Lib.hid (own3_only HOWN'.out (M := fun _ => False) (Only.of_below hb9) (fun _ _ h => h))
      have DC := Lib.hid (HCC'.out.trans (M' := fun _ => False) (Only.of_below hb9) (fun _ _ h => h.elim))
      have hsz9 := hb9.size
      have hW9 : W.heap.size < w9.heap.size := by omega
      clear hb9 HC7' HC8' HBUSY' HOWN' HCC' HC7 HC8 HBUSY HOWN HCC HF HSTP s0 s1 s2 y0 y1 y2 f0 f1 f2 g1 e1 g2 e2 k7 z0 z1 z2 hsz9 hszc hszb
      have m7 : w9.cell? ⟨w.heap.size + 1 + 1 + 1, 0, none⟩ = some (.slice A' acc.length c') := cell_of_blk D7.out rfl
      obtain ⟨⟨m0, m1, m2⟩, -⟩ := three D8.out
      cases hokp : okp acc s with
      | true =>
        obtain ⟨i0, hi, hz0, hz1, hz2⟩ := info_parts info_smp
        have hDO1 : (w9.alloc (.cells #[.int .i64 s.t, .int .i64 s.x, .int .i64 s.y] 32)).ownsRow W1.heap.size 32 3 (.slice A' acc.length c') acc.length (flat acc) := own3_only DO.out (Only.alloc (M := fun _ => False) w9 _) (fun _ _ h => h)
        have HDO1 := Lib.hid hDO1
        have HD71 := Lib.hid (alloc_old w9 (.cells #[.int .i64 s.t, .int .i64 s.x, .int .i64 s.y] 32) D7.out)
        have HNEW := Lib.hid (new3 w9 s 32)
        clear hDO1
        gi_wp2_with (gi_at_builtin; refine wpListIn_append_own _ rfl (.tmp 44) (.tmp 46) 22 rfl W1.heap.size 32 i0 (.agg #[.int .i64 0, .int .i64 0, .int .i64 0]) 3 24 Try.underlying22 hi hz0 hz1 hz2 rfl (by decide) _ acc.length (flat acc) rfl HDO1.out ⟨w9.heap.size, 0, none⟩ 1 1 [.int .i64 s.t, .int .i64 s.x, .int .i64 s.y] rfl rfl HNEW.out (by intro u hu; simp at hu; rcases hu with rfl | rfl | rfl <;> rfl) (by unfold maxLen; omega) (by omega) (by simp; omega) ?_; intro v1 wA hown1 hgrow _; obtain ⟨A1, c1, rfl, -⟩ := own3_slice hown1; have hA7 := (Only.of_grown hgrow).at HD71.out (fun h => by have := (HVLT.out _ h).1; omega); have n7 : wA.cell? ⟨w.heap.size + 1 + 1 + 1, 0, none⟩ = some (.slice A' acc.length c') := cell_of_blk hA7 rfl; have n8 : wA.frozen? ⟨w.heap.size + 1 + 1 + 1, 0, none⟩ = false := free_of_blk hA7; have HA7 := Lib.hid hA7; have HO1 := Lib.hid hown1; have HGR := Lib.hid hgrow; clear hA7 hown1 hgrow)
        have oA := Only.of_grown HGR.out
        have oS := Only.setCell wA ⟨w.heap.size + 1 + 1 + 1, 0, none⟩ (.slice A1 (acc.length + 1) c1)
        have oP := Only.putObj (wA.setCell ⟨w.heap.size + 1 + 1 + 1, 0, none⟩ (.slice A1 (acc.length + 1) c1)) (w6.heap.size + 2 + 1) (.loop (rec .ready none))
        have oT := (((DC.out.trans (Only.alloc (M := fun _ => False) w9 (.cells #[.int .i64 s.t, .int .i64 s.x, .int .i64 s.y] 32)) (fun _ _ h => h.elim)).trans oA (fun i _ h => .inr (.inr (.inr h)))).trans oS (fun i _ h => .inl h)).trans oP (fun i _ h => .inr (.inr (.inl h)))
        have hbX := oS.at (oA.at (alloc_old w9 (.cells #[.int .i64 s.t, .int .i64 s.x, .int .i64 s.y] 32) DB.out) (fun h => by have := (HVLT.out _ h).1; omega)) (by show ¬ _ = w.heap.size + 1 + 1 + 1; omega)
        have hlr : ((wA.setCell ⟨w.heap.size + 1 + 1 + 1, 0, none⟩ (.slice A1 (acc.length + 1) c1)).putObj (w6.heap.size + 2 + 1) (.loop (rec .ready none))).heap[w6.heap.size + 2 + 1]? = some (.loop (rec .ready none)) := World.putObj_heap_same (Array.getElem?_eq_some_iff.1 hbX).1
        refine ⟨hbX, .inl ⟨rfl, hokp, ⟨.slice A1 (acc.length + 1) c1, ⟨?_, ?_, ?_, ?_⟩⟩, HRD.out.only oT ?_⟩⟩
        · refine Only.fix (l := w6.heap.size + 2 + 1) ((HV.out.only.mono (fun i h => Or.inl h)).trans oT ?_) (hlr.trans GL.out.symm)
          rintro i hi (h | h | h | h)
          · exact .inl (.inl h)
          · exact .inl (.inr (.inl h))
          · exact .inr h
          · have := (HVLT.out i h).1; omega
        · exact oP.at (set_blk (j := 0) HA7.out) (by omega)
        · rw [las_snoc]
          exact oP.at (oS.at (oA.at (alloc_old w9 (.cells #[.int .i64 s.t, .int .i64 s.x, .int .i64 s.y] 32) D8.out) (fun h => by have := (HVLT.out _ h).1; omega)) (by show ¬ _ = w.heap.size + 1 + 1 + 1; omega)) (by omega)
        · have h1 := own3_only (own3_only HO1.out oS (fun i hi h => by have := (own3_lt HO1.out hi).1; have h : i = w.heap.size + 1 + 1 + 1 := h; omega)) oP (fun i hi h => by have := (own3_lt HO1.out hi).1; omega)
          rw [flat_snoc, List.length_append]
          exact h1
        · rintro i h1 h2 (h | h | h | h)
          · omega
          · omega
          · omega
          · have := (HVLT.out i h).1; omega
      | false =>
        have x0 := DC.out.at (HV.out.only.at G0.out (by omega)) (fun h => by rcases h with h | h | h | h <;> first | omega | (have := (HVLT.out _ h).1; omega))
        have x1 := DC.out.at (HV.out.only.at G1.out (by omega)) (fun h => by rcases h with h | h | h | h <;> first | omega | (have := (HVLT.out _ h).1; omega))
        have x2 := DC.out.at (HV.out.only.at G2.out (by omega)) (fun h => by rcases h with h | h | h | h <;> first | omega | (have := (HVLT.out _ h).1; omega))
        have xd := DC.out.at (HV.out.only.at GD.out (by omega)) (fun h => by rcases h with h | h | h | h <;> first | omega | (have := (HVLT.out _ h).1; omega))
        obtain ⟨⟨p0, p1⟩, ⟨p2, p3⟩, ⟨p4, p5⟩, z0, z1, z2, hOs⟩ := stores3 (.slice none 0 0) (.int .i64 0) (.int .i64 2) x0 x1 x2 (by omega) (by omega) (by omega)
        have hbx := hOs.at DB.out (by omega)
        have hdx := hOs.at xd (by omega)
        have hbw : Below w.heap.size w W := HB1.out.trans (HV.out.only.below HB1.out.size (fun i hi => by omega))
        have hb9 : Below w.heap.size w w9 := hbw.trans (DC.out.below hbw.size (fun i hi => by rcases hi with h | h | h | h <;> first | omega | (have := (HVLT.out _ h).1; omega)))
        have hbz := hb9.trans (hOs.below hb9.size (fun i hi => by omega))
        have oP := Only.putObj (((w9.setCell ⟨w.heap.size, 0, none⟩ (.slice none 0 0)).setCell ⟨w.heap.size + 1, 0, none⟩ (.int .i64 0)).setCell ⟨w.heap.size + 1 + 1, 0, none⟩ (.int .i64 2)) (w6.heap.size + 2 + 1) (.loop (rec .done (some .ret)))
        have OP := Lib.hid oP
        have Z0 := Lib.hid z0
        have Z1 := Lib.hid z1
        have Z2 := Lib.hid z2
        have HBX := Lib.hid hbx
        have HDX := Lib.hid hdx
        have HBZ := Lib.hid hbz
        clear x0 x1 x2 xd z0 z1 z2 hOs hbx hdx hbw hb9 hbz oP
        gi_wp2
        exact ⟨HBX.out, .inr ⟨rfl, hokp, World.putObj_heap_same (Array.getElem?_eq_some_iff.1 HBX.out).1, OP.out.at Z0.out (by omega), OP.out.at Z1.out (by omega), OP.out.at Z2.out (by omega), OP.out.at HDX.out (by omega), HBZ.out.trans (OP.out.below HBZ.out.size (fun i hi => by omega))⟩⟩
end Go.Proofs.Ytefnpibikebmdaa.Smp
