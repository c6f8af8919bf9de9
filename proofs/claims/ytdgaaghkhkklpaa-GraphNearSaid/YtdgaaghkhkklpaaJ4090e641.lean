/- Lemmas that the proof stands on, in build order: GfJ. -/
import Derived.Test.YtdgaaghkhkklpaaJ3014ee10
import Derived.Test.YtdgaaghkhkklpaaJ32491d42
import Derived.Test.YtdgaaghkhkklpaaJ38c49e24
import Derived.Test.YtdgaaghkhkklpaaJ39363b33
/- Layer 15 (graph), the landed program: neighbors, as a contract: a slice of slices, each grown by its own appends. -/
namespace Go.Proofs.Ytdgaaghkhkklpaa.Gf
open Go.RowKit Rec Ints Ge

attribute [local go_sem] Oper.semAt_some

theorem ints_only {w w' : World} {base : Nat} {e : TypeId} {v : Value} {zs : List Int} {M : Nat → Prop} (h : w.ownsInts base e .i64 v zs) (ho : Only M w w') (hn : ∀ i, v.ownBlock = some i → ¬ M i) : w'.ownsInts base e .i64 v zs := ⟨ownr_only h.1 ho hn, h.2⟩
/-- A slice of slices of ints in a block, each in a row of its own. -/
structure Tab (w : World) (base t n : Nat) (V : List Value) (G : Nat → List Int) : Prop where
  blk : w.heap[t]? = some (.cells V.toArray 42 (0, 0))
  len : V.length = n
  own : ∀ (u : Nat) (v : Value), V[u]? = some v → w.ownsInts base 3 .i64 v (G u)
  apart : ∀ (u u' : Nat) (v v' : Value), u ≠ u' → V[u]? = some v → V[u']? = some v' → ∀ i, v.ownBlock = some i → v'.ownBlock ≠ some i
  low : t < base
section
variable {w w1 w2 : World} {base t n u : Nat} {V : List Value} {G : Nat → List Int} {v v' : Value} {y : Int}
theorem Tab.keep {M : Nat → Prop} (h : Tab w base t n V G) (ho : Only M w w1) (h1 : ¬ M t) (h2 : ∀ i, base ≤ i → i < w.heap.size → (∃ (u : Nat) (v : Value), V[u]? = some v ∧ v.ownBlock = some i) → ¬ M i) : Tab w1 base t n V G :=
  ⟨ho.at h.blk h1, h.len, fun u v hv => ints_only (h.own u v hv) ho (fun i hi => h2 i ((h.own u v hv).1.lt i hi).1 ((h.own u v hv).1.lt i hi).2 ⟨u, v, hv, hi⟩), h.apart, h.low⟩
theorem Tab.below (h : Tab w base t n V G) (hb : Below w.heap.size w w1) : Tab w1 base t n V G :=
  h.keep (M := fun _ => False) (Only.of_below hb) (fun h => h) (fun _ _ _ _ h => h)
theorem Tab.lt (h : Tab w base t n V G) : t < w.heap.size := (Array.getElem?_eq_some_iff.1 h.blk).1
theorem Tab.far (h : Tab w base t n V G) {q : Nat} (hq : w.heap.size ≤ q) : ∀ (u : Nat) (v : Value), V[u]? = some v → v.ownBlock ≠ some q := fun u v hv e => by
  have := ((h.own u v hv).1.lt q e).2
  omega
/-- One number is appended to one of them. -/
theorem Tab.push (h : Tab w base t n V G) (hv : V[u]? = some v) (hown : w1.ownsInts base 3 .i64 v' (G u ++ [y])) (hg : w.grownBy w1 v.ownBlock) (hl : v'.ownBlock = v.ownBlock ∨ v'.ownBlock = some w.heap.size) :
    Tab (w1.setCell ⟨t, u, none⟩ v') base t n (V.set u v') (fun x => if x = u then G u ++ [y] else G x) := by
  have hlow := h.low
  have ht := h.lt
  have hog := Only.of_grown hg
  have hos := Only.setCell w1 ⟨t, u, none⟩ v'
  have hblk : w1.heap[t]? = some (.cells V.toArray 42 (0, 0)) := hog.at h.blk (fun e => by have := ((h.own u v hv).1.lt t e).1; omega)
  have hvl := fun i hi => (h.own u v hv).1.lt i hi
  have hu : u < V.length := (List.getElem?_eq_some_iff.1 hv).1
  have hnew : ∀ i, v'.ownBlock = some i → ∀ x vx, x ≠ u → V[x]? = some vx → vx.ownBlock ≠ some i := fun i hi x vx hx hvx e => by
    rcases hl with hl | hl
    · rw [hl] at hi
      exact h.apart u x v vx (fun e => hx e.symm) hv hvx i hi e
    · rw [hl] at hi
      injection hi with hi
      have := ((h.own x vx hvx).1.lt i e).2
      omega
  refine ⟨?_, by rw [List.length_set]; exact h.len, ?_, ?_, hlow⟩
  · have := set_blk (j := u) (u := v') hblk
    rw [List.setIfInBounds_toArray] at this
    exact this
  · intro x vx hx
    rw [List.getElem?_set] at hx
    by_cases e : u = x
    · subst e
      rw [if_pos rfl, if_pos hu] at hx
      injection hx with hx
      subst hx
      simp only [if_true]
      exact ints_only hown hos (fun i hi e => by have := (hown.1.lt i hi).1; have e : i = t := e; omega)
    · rw [if_neg e] at hx
      rw [if_neg (fun h => e h.symm)]
      have h1 := ints_only (h.own x vx hx) hog (fun i hi hh => h.apart u x v vx e hv hx i hh hi)
      exact ints_only h1 hos (fun i hi e => by have := (h1.1.lt i hi).1; have e : i = t := e; omega)
  · intro a b va vb hab ha hb i hi
    rw [List.getElem?_set] at ha hb
    by_cases ea : u = a
    · subst ea
      rw [if_pos rfl, if_pos hu] at ha
      injection ha with ha
      subst ha
      rw [if_neg hab] at hb
      exact hnew i hi b vb (fun e => hab e.symm) hb
    · rw [if_neg ea] at ha
      by_cases eb : u = b
      · subst eb
        rw [if_pos rfl, if_pos hu] at hb
        injection hb with hb
        subst hb
        exact fun e => hnew i e a va (fun e => ea e.symm) ha hi
      · rw [if_neg eb] at hb
        exact h.apart a b va vb hab ha hb i hi
end
/-- A stop's neighbours among the first k links. -/
def nx (L : List L3) (k u : Nat) : List Int := (got L (u : Int) k).map (fun l => l.2.1)
theorem nx_all {L : List L3} {k : Nat} (h : (wys L).length ≤ k) (u : Nat) : nx L k u = nxt L u := by unfold nx nxt; rw [got_all h]
theorem nx_next {L : List L3} {k : Nat} {l : L3} (h : (wys L)[k]? = some l) {u : Nat} (hu : l.1 = (u : Int)) (x : Nat) : nx L (k + 1) x = if x = u then nx L k u ++ [l.2.1] else nx L k x := by
  unfold nx
  rw [got_next _ h, List.map_append]
  by_cases e : x = u
  · subst e
    rw [if_pos rfl, if_pos hu]
    rfl
  · rw [if_neg e, if_neg (by omega)]
    simp
theorem nx_len (L : List L3) (k u : Nat) : (nx L k u).length ≤ k := by unfold nx; rw [List.length_map]; exact got_len _ _ _

theorem make_full_in {F : Fence} {n : Nat} {P : Program} (w : World) {ops : Array Oper} {rest : List Oper} {o : Oper} {a : Act} {Q : Exit → Act → World → Prop} (hg : o.guard = none) (l c : Operand) (t : TypeId) (hop : o.op = Op.makeSlice t l c)
    (base : Nat) (e : TypeId) (i : TypeInfo) (z : Value) (size : Nat) (h1 : P.underlying t = some (.slice e)) (h2 : P.info? e = some i) (h3 : i.zero = some z) (h4 : i.size = size) (kl kc : IntKind) (m : Nat) (hl : a.eval l = .int kl (m : Int)) (hc : a.eval c = .int kc (m : Int)) (b2 : i.bytes * m ≤ 281474976710656) (b3 : m ≤ maxLen) (b4 : base ≤ w.heap.size)
    (hK : ∀ w', w'.ownsRow base e size (.slice (some ⟨w.heap.size, 0, none⟩) m m) m (madeCells z.cells (m * size)).toList → w.grownBy w' none → wpListIn F n P ops Q rest (a.put o.dst (.slice (some ⟨w.heap.size, 0, none⟩) m m)) w') : wpListIn F n P ops Q (o :: rest) a w := by
  refine wpListIn_plain hg fun K hK' => ?_
  obtain ⟨w', hrun, r1, r2⟩ := run_make_full (P := P) w base t e i z size h1 h2 h3 h4 kl kc m b2 b3 b4
  refine ⟨by simp [Oper.about, hop], ?_⟩
  rw [Oper.semAt_plain F _ _ (by rw [hop]; intro c hc'; cases hc')]
  simp [execOp, hop, hl, hc, hrun, Result.andThen]
  exact hK' _ _ (hK w' r1 r2)
theorem info_ints : (Try.prog.info? 42).map (fun i => (i.zero, i.size, i.bytes)) = some (some (.slice none 0 0), 1, 24) := by kernel_rfl
theorem build_int (u : Int) (W : World) : (Instr.buildSlice 42 1 #[(0, .int .i64 u)]).run Try.prog W = .ok (.slice (some ⟨W.heap.size, 0, none⟩) 1 1) (W.alloc (.cells #[.int .i64 u] 3)) := by kernel_rfl
theorem made_nils (n : Nat) : (madeCells (Value.slice none 0 0).cells (n * 1)).toList = List.replicate n (.slice none 0 0) := by
  rw [Nat.mul_one]
  refine Sto.made_all (by show 0 < 1; omega) (fun j hj => ?_) _
  have hj' : j < 1 := hj
  match j, hj' with
  | 0, _ => rfl
/-- A made table, in its block. -/
theorem made_blk {w : World} {base g n : Nat} {xs : List Value} {e : TypeId} (h : w.ownsRow base e 1 (.slice (some ⟨g, 0, none⟩) n n) n xs) : w.heap[g]? = some (.cells xs.toArray e (0, 0)) := by
  rcases h.2 with ⟨h0, _⟩ | ⟨g', cap, cur, h2, h3, h4, h5, h6, h7, h8⟩
  · cases h0
  · injection h2 with h2 h2' h2''
    injection h2 with h2
    injection h2 with h2
    subst h2 h2''
    rw [h4]
    have e1 : cur.toList = xs := by
      rw [← h8, List.take_of_length_le (by simp; omega)]
    rw [← e1]
/-- Between two rounds. -/
structure GSt (w : World) (A' : Option Addr) (m n : Nat) (L : List L3) (rec : LoopState → Option Code → Loop) (t q l D base : Nat) (V : List Value) (k : Nat) (W : World) : Prop where
  bel : Below w.heap.size w W
  row : RRow lkS W w.heap.size A' m L
  out : W.heap[q]? = some (.cells #[.slice (some ⟨t, 0, none⟩) n n] 72 (0, 0))
  tab : Tab W base t n V (nx L k)
  loop : W.heap[l]? = some (.loop (rec .ready none))
  dfr : W.heap[D]? = some (.deferred (some []))
theorem GSt.alloc {w W : World} {A' : Option Addr} {m n t q l D base k : Nat} {L : List L3} {rec : LoopState → Option Code → Loop} {V : List Value} (h : GSt w A' m n L rec t q l D base V k W) (o : Obj) : GSt w A' m n L rec t q l D base V k (W.alloc o) := by
  have hb := (Below.refl W.heap.size W).alloc (Nat.le_refl _) o
  exact ⟨h.bel.trans (hb.mono h.bel.size), h.row.below (hb.mono h.bel.size), (hb.block _ (Array.getElem?_eq_some_iff.1 h.out).1).trans h.out, h.tab.below hb, (hb.block _ (Array.getElem?_eq_some_iff.1 h.loop).1).trans h.loop, (hb.block _ (Array.getElem?_eq_some_iff.1 h.dfr).1).trans h.dfr⟩
def NxTo (L : List L3) (n : Nat) (w : World) (e : Ending) (w' : World) : Prop :=
  ∃ t base V, e = .returned (.slice (some ⟨t, 0, none⟩) n n) ∧ Tab w' base t n V (nxt L) ∧ w.heap.size ≤ t ∧ Below w.heap.size w w'

set_option maxHeartbeats 1600000 in
set_option maxRecDepth 100000 in
theorem neighbors_any (N : Nt) (A A' : Option Addr) (n c m c' : Nat) (w : World) (h : NAt w w.heap.size N A n c A' m c') (hc : check N = 0) :
    Calls Try.prog 36 #[.agg #[.int .i64 N.ver, .slice A n c, .slice A' m c']] w (NxTo N.lk n w) := by
  have hv := valid_of hc
  have HLA : Hid (∀ l ∈ wys N.lk, ∃ u v : Nat, l.1 = (u : Int) ∧ l.2.1 = (v : Int) ∧ u < n ∧ v < n) := fun l hl => by
    have hn := h.st.len
    rcases mem_wys.1 hl with hl | hl
    · have := link_at hv hl
      exact ⟨l.1.toNat, l.2.1.toNat, by omega, by omega, by omega, by omega⟩
    · have := link_at hv hl
      unfold sw3 at this
      simp only at this
      exact ⟨l.1.toNat, l.2.1.toNat, by omega, by omega, by omega, by omega⟩
  have hn9 : n ≤ 4096 := by have := hv.ns; have := h.st.len; omega
  obtain ⟨ver, st, L⟩ := N
  have hll : L.length = m := h.lk.len
  have hm9 : m ≤ 16384 := by have := hv.nl; simp only at this; omega
  have HRW : Hid (RRow lkS w w.heap.size A' m L) := h.lk
  have HWL : Hid ((wys L).length = 2 * m) := by unfold Hid; rw [wys_len, hll]
  simp only at HLA ⊢
  clear h hv hc hll
  obtain ⟨i0, hi, hz0, hz1, hz2⟩ := info_of info_ints
  obtain ⟨i1, hi1, hz10, hz11, hz12⟩ := info_of info_int
  refine (callsIn_wide (n := 9)).1 ?_
  refine callsIn_of_wp_marks Try.func36 rfl trivial ?_
  simp only [Try.ntmps36, List.size_toArray, List.length_cons, List.length_nil, Nat.reduceAdd, Nat.reduceSub, Array.replicate_succ, Array.replicate_zero, List.push_toArray, List.append_toArray, List.nil_append, List.cons_append]
  have hk0 := heap_alloc_new w (.cells #[.int .i64 ver, .slice A n c, .slice A' m c'] 25)
  have hs1 : (w.alloc (.cells #[.int .i64 ver, .slice A n c, .slice A' m c'] 25)).heap.size = w.heap.size + 1 := by simp
  have hb1 : Below w.heap.size w (w.alloc (.cells #[.int .i64 ver, .slice A n c, .slice A' m c'] 25)) := (Below.refl _ w).alloc (Nat.le_refl _) _
  gi_wp2_with (gi_at_make; go_loud (refine make_full_in _ rfl _ _ 72 rfl w.heap.size 42 i0 (.slice none 0 0) 1 Try.underlying72 hi hz0 hz1 _ _ n rfl rfl (by rw [hz2]; omega) (by unfold maxLen; omega) (by simp) ?_); intro w2 hown2 hg2; rw [made_nils] at hown2; have HO2 := Lib.hid hown2; have HBA := Lib.hid (hb1.grown hg2 (by simp) (fun j hj => by cases hj)); have hk1 := alloc_old_at w2 (.cells #[.slice (some ⟨w.heap.size + 1, 0, none⟩) n n] 72) ((hg2.block w.heap.size (by simp) (fun e => by cases e)).trans hk0); have y0 : (w2.alloc (.cells #[.slice (some ⟨w.heap.size + 1, 0, none⟩) n n] 72)).cell? ⟨w.heap.size, 0, none⟩ = some (.int .i64 ver) := cell_of_blk hk1 rfl; have y1 : (w2.alloc (.cells #[.slice (some ⟨w.heap.size + 1, 0, none⟩) n n] 72)).cell? ⟨w.heap.size, 1, none⟩ = some (.slice A n c) := cell_of_blk hk1 rfl; have y2 : (w2.alloc (.cells #[.slice (some ⟨w.heap.size + 1, 0, none⟩) n n] 72)).cell? ⟨w.heap.size, 2, none⟩ = some (.slice A' m c') := cell_of_blk hk1 rfl; clear hown2 hg2 hk1)
  obtain ⟨t, ht⟩ : ∃ t, w.heap.size + 1 = t := ⟨_, rfl⟩
  have HT : Hid (w.heap.size < t) := by unfold Hid; omega
  have hs2 : Hid ((w.alloc (.cells #[.int .i64 ver, .slice A n c, .slice A' m c'] 25)).heap.size = t) := by unfold Hid; rw [hs1, ht]
  rw [hs1, ht] at HO2
  obtain ⟨G, hG⟩ : ∃ G, w2.heap.size = G := ⟨_, rfl⟩
  have htG : t < G := by have := (HO2.out.lt t rfl).2; omega
  gi_wp2_with (refine ⟨trivial, ?_⟩; gi_at_call 39; refine (callsIn_wide.2 (ways_any _ _ _ _ _ _ _ _)).mono ?_; rintro e w' ⟨rfl, rfl⟩)
  try rw [ht]
  have hb4 : Below w.heap.size w ((w2.alloc (.cells #[.slice (some ⟨t, 0, none⟩) n n] 72)).alloc (.cells #[.int .i64 ver, .slice A n c, .slice A' m c'] 25)) := (HBA.out.alloc HBA.out.size _).alloc (by have := HBA.out.size; simp; omega) _
  have hs4 : ((w2.alloc (.cells #[.slice (some ⟨t, 0, none⟩) n n] 72)).alloc (.cells #[.int .i64 ver, .slice A n c, .slice A' m c'] 25)).heap.size = G + 2 := by simp [hG]
  have hko : ((w2.alloc (.cells #[.slice (some ⟨t, 0, none⟩) n n] 72)).alloc (.cells #[.int .i64 ver, .slice A n c, .slice A' m c'] 25)).heap[G]? = some (.cells #[.slice (some ⟨t, 0, none⟩) n n] 72 (0, 0)) := by
    have h1 := heap_alloc_new w2 (.cells #[.slice (some ⟨t, 0, none⟩) n n] 72)
    rw [hG] at h1
    exact (Below.heap_alloc _ _ _ (by simp [hG])).trans h1
  have hkb : ((w2.alloc (.cells #[.slice (some ⟨t, 0, none⟩) n n] 72)).alloc (.cells #[.int .i64 ver, .slice A n c, .slice A' m c'] 25)).heap[G + 1]? = some (.cells #[.int .i64 ver, .slice A n c, .slice A' m c'] 25 (0, 0)) := by
    have h1 := heap_alloc_new (w2.alloc (.cells #[.slice (some ⟨t, 0, none⟩) n n] 72)) (.cells #[.int .i64 ver, .slice A n c, .slice A' m c'] 25)
    rw [World.size_alloc, hG] at h1
    exact h1
  have hkt : ((w2.alloc (.cells #[.slice (some ⟨t, 0, none⟩) n n] 72)).alloc (.cells #[.int .i64 ver, .slice A n c, .slice A' m c'] 25)).heap[t]? = some (.cells (List.replicate n (.slice none 0 0)).toArray 42 (0, 0)) := (Below.heap_alloc _ _ _ (by simp [hG]; omega)).trans ((Below.heap_alloc _ _ _ (by omega)).trans (made_blk HO2.out))
  have hsw : (w2.alloc (.cells #[.slice (some ⟨t, 0, none⟩) n n] 72)).heap.size = G + 1 := by simp [hG]
  try rw [hsw]
  try rw [hG]
  generalize ((w2.alloc (.cells #[.slice (some ⟨t, 0, none⟩) n n] 72)).alloc (.cells #[.int .i64 ver, .slice A n c, .slice A' m c'] 25)) = w4 at hb4 hs4 hko hkb hkt ⊢
  clear hsw HO2 HBA y0 y1 y2 hk0 hb1 hs1 hs2
  refine range_on (gf := 61) (lb := #[.pointer (some ⟨G + 1, 0, none⟩)]) rfl (enters_of Try.func61 (by kernel_rfl) rfl) ?_
  intro fn rec W1 hrec hl hd hs1 hb1
  rw [hs4] at hl hd hs1 hb1 ⊢
  obtain ⟨B, hB⟩ : ∃ B, W1.heap.size = B := ⟨_, rfl⟩
  have hB6 : G + 4 ≤ B := by omega
  have hwG : w.heap.size < G := by have := HT.out; omega
  have hst : GSt w A' m n L rec t G (G + 2 + 1) (G + 2) B (List.replicate n (.slice none 0 0)) 0 W1 :=
    ⟨hb4.trans (hb1.mono (by omega)), HRW.out.below (hb4.trans (hb1.mono (by omega))), (hb1.block _ (by omega)).trans hko,
      ⟨(hb1.block _ (by omega)).trans hkt, List.length_replicate, fun u v hv => by
        have h1 := List.eq_of_mem_replicate (List.mem_of_getElem? hv)
        subst h1
        exact ⟨World.ownsRow_nil _ _ _ _, fun z hz => by simp [nx, got] at hz⟩, (fun u u' v v' _ hv _ i hi => by
        have h1 := List.eq_of_mem_replicate (List.mem_of_getElem? hv)
        subst h1
        cases hi), by omega⟩, hl, hd⟩
  have hbox1 := (hb1.block _ (show G + 1 < G + 2 by omega)).trans hkb
  refine (ways_run (σ := List Value) 7 (G + 2 + 1) (G + 1) w.heap.size ver A A' n c m c' L
    (fun V k W => Hid (B ≤ W.heap.size ∧ GSt w A' m n L rec t G (G + 2 + 1) (G + 2) B V k W)) (fun V W q => B ≤ q ∧ q ≤ W.heap.size ∧ ∀ (u : Nat) (v : Value), V[u]? = some v → v.ownBlock ≠ some q) W1 (by omega) hbox1
    (fun v k W hJ => hJ.out.2.row) (fun V k W o hJ => ⟨⟨by have := hJ.out.1; rw [World.size_alloc]; omega, hJ.out.2.alloc o⟩, hJ.out.1, by rw [World.size_alloc]; omega, hJ.out.2.tab.far (Nat.le_refl _)⟩)
    (fun V k W hJ => ⟨hJ.out.1, Nat.le_refl _, hJ.out.2.tab.far (Nat.le_refl _)⟩) ?round _ ⟨by omega, hst⟩).mono ?done
  case done =>
    rintro e W2 ⟨hv, V, hJ2⟩
    obtain ⟨hsz, hst2⟩ := hJ2.out
    refine ⟨hv, .inl ⟨hst2.loop, ?_⟩⟩
    have htab := hst2.tab
    have hfar : ∀ (u : Nat) (v : Value), V[u]? = some v → v.ownBlock ≠ some (G + 2 + 1) := fun u v hv => not_own (htab.own u v hv).1 hst2.loop rfl
    have hO3 := Only.putObj W2 (G + 2 + 1) (.loop (rec .exhausted none))
    have HTB3 : Hid (Tab (W2.putObj (G + 2 + 1) (.loop (rec .exhausted none))) B t n V (nx L (2 * m))) := htab.keep hO3 (by omega) (fun i _ _ ⟨u, v, hv, hi⟩ e => hfar u v hv (by rw [hi, e]))
    have HD3 : Hid ((W2.putObj (G + 2 + 1) (.loop (rec .exhausted none))).heap[G + 2]? = some (.deferred (some []))) := hO3.at hst2.dfr (by omega)
    have hout3 := hO3.at hst2.out (show ¬ G = G + 2 + 1 by omega)
    have HB3 : Hid (Below w.heap.size w (W2.putObj (G + 2 + 1) (.loop (rec .exhausted none)))) := hst2.bel.trans (hO3.below hst2.bel.size (fun i hi => by omega))
    have m2 : (W2.putObj (G + 2 + 1) (.loop (rec .exhausted none))).cell? ⟨G, 0, none⟩ = some (.slice (some ⟨t, 0, none⟩) n n) := cell_of_blk hout3 rfl
    clear hO3 hfar hout3 hst2 hst hb4 hb1 hl hd hbox1 hrec htab hko hkb hkt hJ2
    generalize W2.putObj (G + 2 + 1) (.loop (rec .exhausted none)) = W3 at HTB3 HD3 HB3 m2 ⊢
    gi_wp2
    refine ⟨by simp, .inl ⟨_, _, rfl, run_takeDeferred HD3.out, ?_⟩⟩
    have hO5 := Only.putObj W3 (G + 2) (.deferred none)
    refine ⟨_, results_tmp rfl _ _ _, t, B, V, rfl, ?_, Nat.le_of_lt HT.out, HB3.out.trans (hO5.below HB3.out.size (fun i hi => by omega))⟩
    have h1 := HTB3.out.keep hO5 (by omega) (fun i _ _ ⟨u, v, hv, hi⟩ e => not_own (HTB3.out.own u v hv).1 HD3.out rfl (by rw [hi, e]))
    rw [show nx L (2 * m) = nxt L from funext (nx_all (by rw [HWL.out]; exact Nat.le_refl _))] at h1
    exact h1
  case round =>
    rintro V k x W q hs hJ2 ⟨hq1, hq2, hq3⟩
    obtain ⟨hsz, hst2⟩ := hJ2.out
    clear hJ2
    have hkm : k < 2 * m := by have := (List.getElem?_eq_some_iff.1 hs).1; have := HWL.out; omega
    obtain ⟨u, v9, hu1, hv1, hun, hvn⟩ := HLA.out x (List.mem_of_getElem? hs)
    have HNX := Lib.hid (nx_next hs hu1)
    have hnl := nx_len L k u
    refine round_on hrec hst2.loop rfl ?_
    obtain ⟨la, lb, lw⟩ := x
    simp only at hu1 hv1 HNX
    subst hu1 hv1
    unfold lkV
    simp only
    have hHQ : ∀ o, W.heap[q]? = some o → q < W.heap.size := fun o h => (Array.getElem?_eq_some_iff.1 h).1
    have HST := Lib.hid hst2
    clear hs hst hst2 hb4 hb1 hl hd hbox1 hrec hko hkb hkt hB hs1 hs4 ht
    gi_wp2
    have hSA := HST.out.alloc (.cells #[.int .i64 (u : Int), .int .i64 (v9 : Int), .int .i64 lw] 50)
    have hbx := heap_alloc_new W (.cells #[.int .i64 (u : Int), .int .i64 (v9 : Int), .int .i64 lw] 50)
    refine ⟨hSA.loop, ?_⟩
    have hP := Only.putObj (W.alloc (.cells #[.int .i64 (u : Int), .int .i64 (v9 : Int), .int .i64 lw] 50)) (G + 2 + 1) (.loop (rec .busy none))
    have hGW : G + 4 ≤ W.heap.size := by omega
    have HBUSY : Hid (((W.alloc (.cells #[.int .i64 (u : Int), .int .i64 (v9 : Int), .int .i64 lw] 50)).putObj (G + 2 + 1) (.loop (rec .busy none))).heap[G + 2 + 1]? = some (.loop (rec .busy none))) := World.putObj_heap_same (by rw [World.size_alloc]; omega)
    have HBX2 := Lib.hid (hP.at hbx (show ¬ W.heap.size = G + 2 + 1 by omega))
    have HOUT := Lib.hid (hP.at hSA.out (show ¬ G = G + 2 + 1 by omega))
    have HDFR := Lib.hid (hP.at hSA.dfr (show ¬ G + 2 = G + 2 + 1 by omega))
    have HTAB := Lib.hid (hSA.tab.keep hP (show ¬ t = G + 2 + 1 by omega) (fun i _ _ ⟨a, va, hva, hi⟩ e => not_own (hSA.tab.own a va hva).1 hSA.loop rfl (by rw [hi, e])))
    have HBEL : Hid (Below w.heap.size w ((W.alloc (.cells #[.int .i64 (u : Int), .int .i64 (v9 : Int), .int .i64 lw] 50)).putObj (G + 2 + 1) (.loop (rec .busy none)))) := hSA.bel.trans (hP.below hSA.bel.size (fun i hi => by omega))
    have HOQ : Hid (Only (fun i => i = G + 2 + 1) W ((W.alloc (.cells #[.int .i64 (u : Int), .int .i64 (v9 : Int), .int .i64 lw] 50)).putObj (G + 2 + 1) (.loop (rec .busy none)))) := (Only.alloc W _).trans hP (fun _ _ h => h)
    have HSZ : Hid (B ≤ ((W.alloc (.cells #[.int .i64 (u : Int), .int .i64 (v9 : Int), .int .i64 lw] 50)).putObj (G + 2 + 1) (.loop (rec .busy none))).heap.size) := by have := HOQ.out.size; unfold Hid; omega
    obtain ⟨g, hg⟩ : ∃ g, W.heap.size = g := ⟨_, rfl⟩
    rw [hg] at HBX2 hHQ hq2 hGW hsz
    try rw [hg]
    clear hSA hbx hP
    generalize ((W.alloc (.cells #[.int .i64 (u : Int), .int .i64 (v9 : Int), .int .i64 lw] 50)).putObj (G + 2 + 1) (.loop (rec .busy none))) = Wb at HBUSY HBX2 HOUT HDFR HTAB HBEL HOQ HSZ ⊢
    obtain ⟨v, hv⟩ : ∃ v, V[u]? = some v := ⟨_, List.getElem?_eq_getElem (by rw [HTAB.out.len]; exact hun)⟩
    obtain ⟨A1, c1, rfl, -⟩ := ownr_slice (HTAB.out.own u v hv).1
    have HV := Lib.hid hv
    have hln : (nx L k u).length ≤ 32768 := by omega
    obtain ⟨ι, hneI, Wf, i0', h0, hWp, hC⟩ := Ent.fam_sub (fun x => x.heap[G]? = some (.cells #[.slice (some ⟨t, 0, none⟩) n n] 72 (0, 0)) ∧ x.heap[g]? = some (.cells #[.int .i64 (u : Int), .int .i64 (v9 : Int), .int .i64 lw] 50 (0, 0)) ∧ x.heap[t]? = some (.cells V.toArray 42 (0, 0))) Wb ⟨HOUT.out, HBX2.out, HTAB.out.blk⟩
    have dO : ∀ i, (Wf i).cell? ⟨G, 0, none⟩ = some (.slice (some ⟨t, 0, none⟩) n n) := fun i => cell_of_blk (hWp i).1 rfl
    have d0 : ∀ i, (Wf i).cell? ⟨g, 0, none⟩ = some (.int .i64 (u : Int)) := fun i => cell_of_blk (hWp i).2.1 rfl
    have d1 : ∀ i, (Wf i).cell? ⟨g, 1, none⟩ = some (.int .i64 (v9 : Int)) := fun i => cell_of_blk (hWp i).2.1 rfl
    have dt : ∀ i, (Wf i).cell? ⟨t, u, none⟩ = some (.slice A1 (nx L k u).length c1) := fun i => cell_of_blk (hWp i).2.2 (by simpa using HV.out)
    have a1 : (0 : Int) ≤ (u : Int) := by omega
    have a2 : (u : Int) < (n : Int) := by omega
    have HTA : Hid (Tab (Wf i0') B t n V (nx L k)) := by rw [← h0]; exact HTAB.out.below (Below.refl _ _).drew
    have HOA : Hid (Only (fun i => i = G + 2 + 1) W (Wf i0')) := by rw [← h0]; exact HOQ.out.drew
    have HBA : Hid (Below w.heap.size w (Wf i0')) := by rw [← h0]; exact HBEL.out.drew
    have HYA : Hid ((Wf i0').heap[G + 2 + 1]? = some (.loop (rec .busy none))) := by rw [← h0]; exact HBUSY.out
    have HDA : Hid ((Wf i0').heap[G + 2]? = some (.deferred (some []))) := by rw [← h0]; exact HDFR.out
    have HZA : Hid (B ≤ (Wf i0').heap.size) := by rw [← h0]; exact HSZ.out
    clear HTAB HOQ HBEL HBUSY HDFR HSZ HOUT HBX2 hv
    refine wpIn_block ?_
    refine Mix.wpIn_region_lexZ (z := 13) (fun w' => ∃ i, w' = Wf i) rfl (by kernel_rfl) (by kernel_rfl) (by kernel_rfl) (by kernel_rfl) ⟨i0', h0⟩ ?_
    rw [h0]
    clear h0
    simp only [List.take_succ_cons, List.take_zero]
    repeat (first | (refine Mix.lex_step rfl ?_; intro K hK; go_big_quiet_step (fail); refine Mix.lex_on hK ?_; clear hK K) | (refine Mix.lex_skip rfl ?_; simp only [Act.put, List.setIfInBounds_toArray, List.set_cons_zero, List.set_cons_succ]))
    have hb7 := (Below.refl (Wf i0').heap.size (Wf i0')).alloc (Nat.le_refl _) (.cells #[.int .i64 (v9 : Int)] 3)
    have hn7 := heap_alloc_new (Wf i0') (.cells #[.int .i64 (v9 : Int)] 3)
    obtain ⟨j1, hj1⟩ := hC _ ⟨(hb7.block _ (Array.getElem?_eq_some_iff.1 (hWp i0').1).1).trans (hWp i0').1, (hb7.block _ (Array.getElem?_eq_some_iff.1 (hWp i0').2.1).1).trans (hWp i0').2.1, (hb7.block _ (Array.getElem?_eq_some_iff.1 (hWp i0').2.2).1).trans (hWp i0').2.2⟩
    refine Mix.lex_build (ps := #[(0, .int .i64 (v9 : Int))]) rfl (by simp [Act.eval]) (build_int (v9 : Int) (Wf i0')) rfl ⟨j1, hj1⟩ ?_
    have HTB := Lib.hid (HTA.out.below hb7)
    have HOB := Lib.hid (HOA.out.trans (Only.of_below (M := fun i => i = G + 2 + 1) hb7) (fun _ _ h => h))
    have HBB := Lib.hid (HBA.out.trans (hb7.mono HBA.out.size))
    have HYB := Lib.hid ((hb7.block _ (Array.getElem?_eq_some_iff.1 HYA.out).1).trans HYA.out)
    have HDB := Lib.hid ((hb7.block _ (Array.getElem?_eq_some_iff.1 HDA.out).1).trans HDA.out)
    have HZB := Lib.hid (Nat.le_trans HZA.out hb7.size)
    obtain ⟨g7, hg7⟩ : ∃ g7, (Wf i0').heap.size = g7 := ⟨_, rfl⟩
    rw [hg7] at hn7
    try rw [hg7]
    have hc7 := cell_of_blk (j := 0) hn7 rfl
    rw [hj1] at HTB HOB HBB HYB HDB HZB hc7 ⊢
    clear hb7 hn7 hj1 hg7 HTA HOA HBA HYA HDA HZA
    simp only [Act.put, List.setIfInBounds_toArray, List.set_cons_zero, List.set_cons_succ]
    repeat (first | (refine Mix.lex_step rfl ?_; intro K hK; go_big_quiet_step (fail); refine Mix.lex_on hK ?_; clear hK K) | (refine Mix.lex_skip rfl ?_; simp only [Act.put, List.setIfInBounds_toArray, List.set_cons_zero, List.set_cons_succ]))
    obtain ⟨v', wA, hrunA, hoiA, hgA, hlocA⟩ := Ent.added_at 42 42 B 3 i1 .i64 Try.underlying42 hi1 hz10 hz11 (by rw [hz12]; omega) _ _ (HTB.out.own u _ HV.out) g7 1 (v9 : Int) hc7 (WalkArith.wf_i64 (by omega)) (by omega) HZB.out
    have hlow := HTB.out.low
    have hne : ∀ i, i < B → ¬ (Value.slice A1 (nx L k u).length c1).ownBlock = some i := fun i hi e => by have := ((HTB.out.own u _ HV.out).1.lt i e).1; omega
    have hoA := Only.of_grown hgA
    have hA : (fun x : World => x.heap[G]? = some (.cells #[.slice (some ⟨t, 0, none⟩) n n] 72 (0, 0)) ∧ x.heap[g]? = some (.cells #[.int .i64 (u : Int), .int .i64 (v9 : Int), .int .i64 lw] 50 (0, 0)) ∧ x.heap[t]? = some (.cells V.toArray 42 (0, 0))) wA := ⟨hoA.at (hWp j1).1 (hne _ (by omega)), hoA.at (hWp j1).2.1 (fun e => Ent.own_ne (HTB.out.own u _ HV.out) (hWp j1).2.1 (by decide) e), hoA.at (hWp j1).2.2 (hne _ (by omega))⟩
    obtain ⟨j3, hj3⟩ := hC wA hA
    obtain ⟨A2, c2, hv2, -⟩ := ownr_slice hoiA.1
    subst hv2
    refine Mix.lex_act rfl rfl (Ent.exec_append rfl (by simp [Act.eval]) (by simp [Act.eval]) hrunA) ⟨j3, hj3⟩ ?_
    rw [hj3]
    rw [hj3] at hoiA hgA hoA
    clear hrunA hj3 hA
    simp only [Act.put, List.setIfInBounds_toArray, List.set_cons_zero, List.set_cons_succ]
    repeat (first | (refine Mix.lex_step rfl ?_; intro K hK; go_big_quiet_step (fail); refine Mix.lex_on hK ?_; clear hK K) | (refine Mix.lex_skip rfl ?_; simp only [Act.put, List.setIfInBounds_toArray, List.set_cons_zero, List.set_cons_succ]))
    have hTab := HTB.out.push HV.out hoiA hgA hlocA
    have hsc : ((Wf j3).cell? ⟨t, u, none⟩).isSome = true := by rw [dt j3]; rfl
    have hfz : (Wf j3).frozen? ⟨t, u, none⟩ = false := free_of_blk (hWp j3).2.2
    refine Mix.lexZ_skip rfl rfl (Sto.exec_store_one (A := A2) (n := (nx L k u ++ [(v9 : Int)]).length) (c := c2) rfl (by simp [Act.eval]) rfl hsc hfz (by kernel_rfl)) ?_
    refine ⟨rfl, ?_⟩
    have hoS := Only.setCell (Wf j3) ⟨t, u, none⟩ (.slice A2 (nx L k u ++ [(v9 : Int)]).length c2)
    have hlo2 : ∀ i, i < B → i ≠ t → ¬ ((Value.slice A1 (nx L k u).length c1).ownBlock = some i ∨ i = t) := fun i hi h1 h => h.elim (hne i hi) h1
    have hoT : Only (fun i => (Value.slice A1 (nx L k u).length c1).ownBlock = some i ∨ i = t) (Wf j1) ((Wf j3).setCell ⟨t, u, none⟩ (.slice A2 (nx L k u ++ [(v9 : Int)]).length c2)) := (hoA.mono (fun _ h => .inl h)).trans hoS (fun _ _ h => .inr h)
    have hbF := hoT.at HYB.out (hlo2 _ (by omega) (by omega))
    have hdF := hoT.at HDB.out (hlo2 _ (by omega) (by omega))
    have huF := hoS.at (hWp j3).1 (show ¬ G = t by omega)
    have hown := fun i hi => (HTB.out.own u _ HV.out).1.lt i hi
    have hbl := HBB.out.trans (hoT.below HBB.out.size (fun i hi => hi.elim (fun h => by have := (hown i h).1; have := HT.out; omega) (fun h => by have := HT.out; omega)))
    have hqW : ∀ o, W.heap[q]? = some o → ((Wf j3).setCell ⟨t, u, none⟩ (.slice A2 (nx L k u ++ [(v9 : Int)]).length c2)).heap[q]? = some o := fun o ho => by
      have := hHQ o ho
      exact hoT.at (HOB.out.at ho (by omega)) (fun h => h.elim (hq3 u _ HV.out) (fun h => by omega))
    have hsF : B ≤ ((Wf j3).setCell ⟨t, u, none⟩ (.slice A2 (nx L k u ++ [(v9 : Int)]).length c2)).heap.size := Nat.le_trans HZB.out hoT.size
    rw [← funext HNX.out] at hTab
    generalize ((Wf j3).setCell ⟨t, u, none⟩ (.slice A2 (nx L k u ++ [(v9 : Int)]).length c2)) = wF at hbF hdF huF hbl hqW hsF hTab ⊢
    have hP7 := Only.putObj wF (G + 2 + 1) (.loop (rec .ready none))
    have hlr : (wF.putObj (G + 2 + 1) (.loop (rec .ready none))).heap[G + 2 + 1]? = some (.loop (rec .ready none)) := World.putObj_heap_same (Array.getElem?_eq_some_iff.1 hbF).1
    have hbl2 := hbl.trans (hP7.below hbl.size (fun i hi => by omega))
    exact ⟨hbF, rfl, ⟨_, ⟨Nat.le_trans hsF hP7.size, hbl2, HRW.out.below hbl2, hP7.at huF (show ¬ G = G + 2 + 1 by omega),
      hTab.keep hP7 (show ¬ t = G + 2 + 1 by omega) (fun i _ _ ⟨a, va, hva, hi⟩ e => not_own (hTab.own a va hva).1 hbF rfl (by rw [hi, e])), hlr, hP7.at hdF (show ¬ G + 2 = G + 2 + 1 by omega)⟩⟩, fun o ho => hP7.at (hqW o ho) (show ¬ q = G + 2 + 1 by omega)⟩
end Go.Proofs.Ytdgaaghkhkklpaa.Gf
