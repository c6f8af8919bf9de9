/- Lemmas that the proof stands on, in build order: Sto PdK MixR. -/
import Derived.Deep.MidRow
import Derived.Laws.MakeOwn
import Derived.OrdersIn
import Derived.RangeFuncCalls
import Derived.Test.YtdhlbcbgbmgcjaaJ10828d9b
import Derived.Test.YtdhlbcbgbmgcjaaJ2406a6f3
import Derived.Test.YtdhlbcbgbmgcjaaJ2538e119
/- Over any program: a whole struct stored, as an operation's run (for Mix.lex_act0); the cells that 'make' lays where all are alike. -/
namespace Go.Proofs.Ytdhlbcbgbmgcjaa.Sto
open Go.RowKit Rec

theorem exec_store {P : Program} {w : World} {o : Oper} {a : Act} {x y : Operand} {ty : TypeId} {b off : Nat} {cells : Array Value} (hop : o.op = .store ty x y) (hx : a.eval x = .pointer (some ⟨b, off, none⟩)) (hy : a.eval y = .agg cells)
    (ht : w.there b off cells.size) (hi : (P.info? ty).map (·.size) = some cells.size) (h1 : cells.all (·.oneCell') = true) : (execOp a.eval o).run P w = .ok .skip (w.setCells b off cells.toList) := by
  simp only [execOp, hop, hx, hy, Sem.run_bind, Sem.run_pure, Result.andThen_ok, run_storeAt_mid w b off ty cells ht hi h1]
theorem exec_store_one {P : Program} {w : World} {o : Oper} {a : Act} {x y : Operand} {ty : TypeId} {b off n c : Nat} {A : Option Addr} (hop : o.op = .store ty x y) (hx : a.eval x = .pointer (some ⟨b, off, none⟩)) (hy : a.eval y = .slice A n c)
    (hc : (w.cell? ⟨b, off, none⟩).isSome = true) (hf : w.frozen? ⟨b, off, none⟩ = false) (hi : (P.info? ty).map (·.size) = some 1) : (execOp a.eval o).run P w = .ok .skip (w.setCell ⟨b, off, none⟩ (.slice A n c)) := by
  have h1 := run_storeCells_cells (P := P) b off [.slice A n c] 0 w (fun j hj => by
    have : j = 0 := by simpa using hj
    subst this
    simpa using hc) (fun j hj => by
    have : j = 0 := by simpa using hj
    subst this
    simpa using hf) (fun v hv => by rw [List.mem_singleton.1 hv]; rfl)
  have h2 : (storeVar ty ⟨b, off, none⟩ (.slice A n c)).run P w = .ok () (w.setCell ⟨b, off, none⟩ (.slice A n c)) := by
    cases hq : P.info? ty with
    | none => simp [hq] at hi
    | some i =>
      have hs : i.size = 1 := by simpa [hq] using hi
      simp only [Nat.add_zero] at h1
      have h1' : (storeCells ⟨b, off, none⟩ [Value.slice A n c]).run P w = .ok () (w.setCell ⟨b, off, none⟩ (.slice A n c)) := h1
      simp [storeVar, sizeOf, typeInfo, hq, Value.cells, hs, h1']
  simp only [execOp, hop, hx, hy, Instr.storeAt, Instr.sureAddr, Sem.run_bind, Sem.run_pure, Result.andThen_ok, h2]
theorem there_of_blk {w : World} {b : Nat} {cs : Array Value} {t : TypeId} (h : w.heap[b]? = some (.cells cs t (0, 0))) : w.there b 0 cs.size := fun j hj => by
  rw [Nat.zero_add]
  refine ⟨?_, free_of_blk h⟩
  rw [cell_of_row w b j cs t (0, 0) h, Array.getElem?_eq_getElem hj]
  rfl
theorem whole_set {w : World} {b : Nat} {cs vs : Array Value} {t : TypeId} (h : w.heap[b]? = some (.cells cs t (0, 0))) (hl : cs.size = vs.size) : (w.setCells b 0 vs.toList).heap[b]? = some (.cells vs t (0, 0)) := by
  have h' : w.heap[b]? = some (.cells cs.toList.toArray t (0, 0)) := h
  rw [setCells_row b vs.toList 0 cs.toList w h' (by simp [hl])]
  have e : List.drop cs.size cs.toList = [] := List.drop_of_length_le (by simp)
  simp [← hl, e]
theorem made_all {z : Array Value} {u : Value} (hz : 0 < z.size) (h : ∀ j (hj : j < z.size), z[j] = u) (n : Nat) : (madeCells z n).toList = List.replicate n u := by
  apply List.ext_getElem
  · simp [madeCells]
  · intro i h1 h2
    have hm := Nat.mod_lt i hz
    rw [List.getElem_replicate]
    simp only [madeCells, Array.toList_map, Array.toList_range, List.getElem_map, List.getElem_range]
    rw [getElem!_pos z _ hm]
    exact h _ hm
theorem flat_all {α : Type} {S : Shape α} {a : α} {u : Value} (h : S.f a = List.replicate S.c u) (n : Nat) : S.flat (List.replicate n a) = List.replicate (n * S.c) u := by
  induction n with
  | zero => simp [Shape.flat]
  | succ n ih => rw [List.replicate_succ, flat_cons, ih, h, List.replicate_append_replicate]; congr 1; rw [Nat.add_mul]; omega
/-- The next of those that are filled in. -/
theorem fill_next {α : Type} {l : List α} {k n : Nat} (z a : α) (hl : l.length = k) (hk : k < n) : (l ++ List.replicate (n - k) z).set k a = (l ++ [a]) ++ List.replicate (n - (k + 1)) z := by
  rw [List.set_append_right _ _ (by omega), hl, Nat.sub_self, show n - k = (n - (k + 1)) + 1 by omega, List.replicate_succ, List.set_cons_zero]
  simp
end Go.Proofs.Ytdhlbcbgbmgcjaa.Sto

/- Layer 17 (path), the landed program: how the links of all stops lie in memory. -/
namespace Go.Proofs.Ytdhlbcbgbmgcjaa.Pt
open Go.RowKit Rec Ints Ge Gf Pa

theorem hold_x {w : World} {base g cap j : Nat} {e : TypeId} {L : List Int} {x : Int} (h : Hold intS w base e g cap L) (hj : L[j]? = some x) : w.cell? ⟨g, j, none⟩ = some (.int .i64 x) := by
  have h1 := h.cells hj 0 (by show 0 < 1; omega)
  have h2 : j * intS.c + 0 = j := Nat.mul_one j
  rw [h2] at h1
  exact h1
theorem hold_y {w : World} {base g cap k : Nat} {e : TypeId} {L : List Int} (h : Hold intS w base e g cap L) (x : Int) (hk : k < L.length) : Hold intS (w.setCell ⟨g, k, none⟩ (.int .i64 x)) base e g cap (L.set k x) := by
  have h1 := h.field (i := 0) (b := x) (u := .int .i64 x) (List.getElem?_eq_getElem hk) (by show 0 < 1; omega) rfl
  have h2 : k * intS.c + 0 = k := Nat.mul_one k
  rw [h2] at h1
  exact h1
theorem info_lks : (Try.prog.info? 23).map (fun i => (i.zero, i.size, i.bytes)) = some (some (.slice none 0 0), 1, 24) := by kernel_rfl
theorem made_nil (n : Nat) : (madeCells (Value.slice none 0 0).cells (n * 1)).toList = List.replicate n (.slice none 0 0) := by
  rw [Nat.mul_one]
  refine Sto.made_all (by show 0 < 1; omega) (fun j hj => ?_) _
  have hj' : j < 1 := hj
  match j, hj' with
  | 0, _ => rfl
theorem made_zeros (n : Nat) : (madeCells (Value.int .i64 0).cells (n * 1)).toList = intS.flat (List.replicate n 0) := by
  rw [Sto.flat_all (S := intS) (a := (0 : Int)) (u := .int .i64 0) rfl n]
  refine Sto.made_all (by show 0 < 1; omega) (fun j hj => ?_) _
  have hj' : j < 1 := hj
  match j, hj' with
  | 0, _ => rfl
theorem made_lks (n : Nat) : (madeCells (Value.agg #[.int .i64 0, .int .i64 0, .int .i64 0]).cells (n * 3)).toList = lkS.flat (List.replicate n ((0, 0, 0) : L3)) := by
  rw [Sto.flat_all (S := lkS) (a := ((0, 0, 0) : L3)) (u := .int .i64 0) rfl n]
  refine Sto.made_all (by show 0 < 3; omega) (fun j hj => ?_) _
  have hj' : j < 3 := hj
  match j, hj' with
  | 0, _ => rfl
  | 1, _ => rfl
  | 2, _ => rfl
/-- A made table, in its block. -/
theorem blk_of {w : World} {base g n : Nat} {xs : List Value} {e : TypeId} (h : w.ownsRow base e 1 (.slice (some ⟨g, 0, none⟩) n n) n xs) : w.heap[g]? = some (.cells xs.toArray e (0, 0)) := by
  rcases h.2 with ⟨h0, _⟩ | ⟨g', cap, cur, h2, h3, h4, h5, h6, h7, h8⟩
  · cases h0
  · injection h2 with h2 h2' h2''
    injection h2 with h2
    injection h2 with h2
    subst h2 h2''
    rw [h4]
    have e1 : cur.toList = xs := by
      rw [← h8, List.take_of_length_le (by simp; omega)]
    rw [← e1]
theorem build_lk (p : L3) (W : World) : (Instr.buildSlice 23 1 #[(0, .agg #[.int .i64 p.1, .int .i64 p.2.1, .int .i64 p.2.2])]).run Try.prog W = .ok (.slice (some ⟨W.heap.size, 0, none⟩) 1 1) (W.alloc (.cells #[.int .i64 p.1, .int .i64 p.2.1, .int .i64 p.2.2] 45)) := by kernel_rfl

/-- Where each stop's piece is cut off: where nothing is left it stays. -/
def pos (N : Nt) : Nat → Nat
  | 0 => 0
  | k + 1 => if 2 * N.lk.length - ofs N k = deg N k then pos N k else pos N k + deg N k * 3
theorem pos_at {N : Nt} : ∀ {k : Nat}, ofs N k < 2 * N.lk.length → pos N k = ofs N k * 3
  | 0, _ => rfl
  | k + 1, h => by
    rw [ofs_succ] at h ⊢
    rw [pos, if_neg (by omega), pos_at (by omega)]
    omega
/-- The table of all stops' links: one array for all. -/
def Vl (N : Nt) (a : Nat) (G : Nat → Nat) : List Value := (List.range N.st.length).map fun v => .slice (some ⟨a, pos N v, none⟩) (G v) (deg N v)
/-- .. while it is cut. -/
def Vk (N : Nt) (a k : Nat) : List Value := (List.range N.st.length).map fun v => if v < k then .slice (some ⟨a, pos N v, none⟩) 0 (deg N v) else .slice none 0 0
theorem vl_len (N : Nt) (a : Nat) (G : Nat → Nat) : (Vl N a G).length = N.st.length := by unfold Vl; simp
theorem vl_at {N : Nt} {a : Nat} {G : Nat → Nat} {v : Nat} (h : v < N.st.length) : (Vl N a G)[v]? = some (.slice (some ⟨a, pos N v, none⟩) (G v) (deg N v)) := by unfold Vl; simp [h]
theorem vl_set {N : Nt} {a : Nat} {G G' : Nat → Nat} {v : Nat} (e : ∀ u, u < N.st.length → u ≠ v → G' u = G u) : (Vl N a G).set v (.slice (some ⟨a, pos N v, none⟩) (G' v) (deg N v)) = Vl N a G' := by
  apply List.ext_getElem?
  intro u
  by_cases hu : u < N.st.length
  · rw [vl_at hu, List.getElem?_set]
    by_cases e1 : v = u
    · subst e1
      rw [if_pos rfl, if_pos (by rw [vl_len]; exact hu)]
    · rw [if_neg e1, vl_at hu, e u hu (fun h => e1 h.symm)]
  · rw [List.getElem?_eq_none (by rw [List.length_set, vl_len]; omega), List.getElem?_eq_none (by rw [vl_len]; omega)]
theorem vk_zero (N : Nt) (a : Nat) : Vk N a 0 = List.replicate N.st.length (.slice none 0 0) := by
  unfold Vk
  apply List.ext_getElem
  · simp
  · intro i h1 h2
    simp
theorem vk_at {N : Nt} {a k v : Nat} (h : v < N.st.length) : (Vk N a k)[v]? = some (if v < k then .slice (some ⟨a, pos N v, none⟩) 0 (deg N v) else .slice none 0 0) := by unfold Vk; simp [h]
theorem vk_len (N : Nt) (a k : Nat) : (Vk N a k).length = N.st.length := by unfold Vk; simp
theorem vk_next {N : Nt} {a k : Nat} : (Vk N a k).set k (.slice (some ⟨a, pos N k, none⟩) 0 (deg N k)) = Vk N a (k + 1) := by
  apply List.ext_getElem?
  intro u
  by_cases hu : u < N.st.length
  · rw [vk_at hu, List.getElem?_set]
    by_cases e1 : k = u
    · subst e1
      rw [if_pos rfl, if_pos (by rw [vk_len]; exact hu), if_pos (by omega)]
    · rw [if_neg e1, vk_at hu]
      by_cases e2 : u < k
      · rw [if_pos e2, if_pos (by omega)]
      · rw [if_neg e2, if_neg (by omega)]
  · rw [List.getElem?_eq_none (by rw [List.length_set, vk_len]; omega), List.getElem?_eq_none (by rw [vk_len]; omega)]
theorem vk_all (N : Nt) (a : Nat) : Vk N a N.st.length = Vl N a (fun _ => 0) := by
  apply List.ext_getElem?
  intro u
  by_cases hu : u < N.st.length
  · rw [vk_at hu, vl_at hu, if_pos hu]
  · rw [List.getElem?_eq_none (by rw [vk_len]; omega), List.getElem?_eq_none (by rw [vl_len]; omega)]
/-- What the links of all stops are to those who read them: below B. -/
structure Rws (w : World) (B t : Nat) (N : Nt) (V : List Value) : Prop where
  blk : w.heap[t]? = some (.cells V.toArray 23 (0, 0))
  low : t < B
  le : B ≤ w.heap.size
  len : V.length = N.st.length
  row : ∀ u, u < N.st.length → ∃ A c, V[u]? = some (.slice A (deg N u) c) ∧ RRow lkS w B A (deg N u) (pick (u : Int) N.lk)
theorem Rws.below {w w' : World} {B t : Nat} {N : Nt} {V : List Value} (h : Rws w B t N V) (hb : Below B w w') : Rws w' B t N V :=
  ⟨(hb.block t h.low).trans h.blk, h.low, Nat.le_trans h.le hb.size, h.len, fun u hu => by
    obtain ⟨A, c, e, hr⟩ := h.row u hu
    exact ⟨A, c, e, hr.below hb⟩⟩
/-- All links are laid. -/
theorem rws_of {w : World} {N : Nt} {t a B base : Nat} {all : List L3} (hN : Valid N) (hb : w.heap[t]? = some (.cells (Vl N a (fun v => (gt N N.lk.length v).length)).toArray 23 (0, 0))) (ht : t < B) (hB : B ≤ w.heap.size) (ha : a < B)
    (hH : Hold lkS w base 45 a (2 * N.lk.length) all) (hL : Ly N (gt N N.lk.length) all) : Rws w B t N (Vl N a (fun v => (gt N N.lk.length v).length)) := by
  refine ⟨hb, ht, hB, vl_len _ _ _, fun u hu => ?_⟩
  have e1 : (gt N N.lk.length u).length = deg N u := by rw [gt_all]; rfl
  refine ⟨_, _, by rw [vl_at hu, e1], rfl, fun h0 => ⟨a, ofs N u * 3, by rw [pos_at (by have := ofs_fit hN hu; omega)], ha, fun j y hy i hi => ?_⟩⟩
  have h1 := hH.cells (hL.at_ u hu j y (by rw [gt_all]; exact hy)) i hi
  have h2 : (ofs N u + j) * lkS.c + i = ofs N u * 3 + j * lkS.c + i := by
    have h3 : lkS.c = 3 := rfl
    rw [h3]
    omega
  rw [h2] at h1
  exact h1
end Go.Proofs.Ytdhlbcbgbmgcjaa.Pt

/- A region that draws its order, inside a round of a range over a function: Mix's walk in the text's order serves there too. Over any program. -/
namespace Go.Proofs.Ytdhlbcbgbmgcjaa.Mix
open Go.RowKit

section
variable {P : Program} {S : World → Prop} {Q : Exit → Act → World → Prop}
theorem anyH_lex {a : Act} {w : World} {l : List Oper} (hB : lexOK l.toArray = true) (hS : S w) (h : wpLex P l.toArray S Q l a w) : wpAnyH P .any l.toArray Q S l.toArray.size (Array.replicate l.toArray.size false) a w := by
  refine any_of_lex (ok_of hB) _ (List.range' 0 l.length) _ a _ (by simp) List.pairwise_lt_range' (by simp) (fun j => ?_) (fun i o ho hi => ?_) hS (lex_nums l 0 a _ (fun j => ?_) h)
  · simp only [List.mem_range'_1]
    by_cases hj : j < l.length
    · simp [hj]
    · simp [hj]
  · by_cases hj : i < l.length
    · simp [hj] at hi
    · simp [hj] at hi
  · by_cases hj : j < l.length
    · simp [hj]
    · simp [hj]
/-- It ends as it should. -/
def Ends (Q : Exit → Act → World → Prop) (e : Exit) (a : Act) (w : World) : Prop := e = .normal ∧ Q .normal a w
theorem ends_out : ¬ LetsOut (Ends Q) := fun h => by
  obtain ⟨_, _, h⟩ := h
  cases h.1
theorem oper_in {o : Oper} {a : Act} {w : World} {K K' : Act → World → Prop} {l n : Nat} (hd : ∀ c, o.op ≠ .defer c) (hK : ∀ a w, K a w → K' a w) (h : o.wp P a w K (Ends Q)) : o.wpIn (Fence.wide.inRound l) n P a w K' Q := by
  unfold Oper.wp at h
  unfold Oper.wpIn
  refine ⟨fun _ _ => trivial, ?_⟩
  rw [Oper.semAt_eq _ _ _ hd]
  generalize (execOp a.eval o).run P w = r at h ⊢
  cases r with
  | ok x w' =>
    cases x <;> simp only [Oper.upon, Oper.uponIn] at h ⊢ <;>
      first
        | exact hK _ _ h
        | exact ⟨fun h => by simp [Fence.wide] at h, CallsIn.inRound _ (callsIn_wide.2 (Calls.mono h (fun e w'' he => by cases e <;> first | exact hK _ _ he | exact absurd he.1 (by simp) | exact absurd he ends_out)))⟩
        | exact ⟨fun h => by simp [Fence.wide] at h, fun c cs _ => let ⟨v, w', r, s⟩ := h c cs; ⟨v, w', hK _ _ r, stepsIn_wide.2 s⟩⟩
  | halt x w' =>
    cases x <;> simp only [Oper.upon, Oper.uponIn] at h ⊢ <;> first | exact h | exact absurd h.1 (by simp)
theorem any_in {md : Region.Mode} {ops : Array Oper} {l n : Nat} (hd : ∀ (i : Nat) (o : Oper), ops[i]? = some o → ∀ c, o.op ≠ .defer c) : ∀ (fuel : Nat) (listed : Array Bool) (a : Act) (w : World), wpAny P md ops (Ends Q) fuel listed a w → wpAnyIn (Fence.wide.inRound l) n P md ops Q fuel listed a w
  | 0, _, _, _, h => ⟨h.1, h.2.2⟩
  | fuel + 1, listed, a, w, h => ⟨fun hr => (h.1 hr).2, fun i hi => by
      have h1 := h.2 i hi
      unfold wpOp at h1
      unfold wpOpIn
      cases ho : ops[i]? with
      | none =>
        rw [ho] at h1
        exact any_in hd fuel _ a w h1
      | some o =>
        rw [ho] at h1
        simp only at h1 ⊢
        split at h1
        · rename_i hw
          rw [if_pos hw]
          exact oper_in (hd i o ho) (fun a w => any_in hd fuel _ a w) (h1.resolve_right (fun h => ends_out h.2))
        · rename_i hw
          rw [if_neg hw]
          exact ⟨fun _ _ => trivial, any_in hd fuel _ _ _ h1⟩⟩
/-- No operation of it is deferred. -/
def noDefer : Op → Bool
  | .defer _ => false
  | _ => true
/-- **The rule.** -/
theorem wpIn_region_lex {id ln n : Nat} {a : Act} {w : World} {l : List Oper} (S : World → Prop) (hm : P.follows .mixedOrders = true) (hB : lexOK l.toArray = true) (hd : l.all (fun o => noDefer o.op) = true) (hS : S w.drew) (h : wpLex P l.toArray S (Ends Q) l a w.drew) :
    (Code.region id l.toArray true).wpIn (Fence.wide.inRound ln) n P Q a w := by
  refine wpIn_region_any hm (any_in (fun i o ho c e => ?_) _ _ _ _ (wpAny_of_held _ _ _ _ (anyH_lex hB hS h)))
  have h1 := List.all_eq_true.1 hd o (by simpa using Array.mem_of_getElem? ho)
  rw [e] at h1
  cases h1
theorem lex_ends {ops : Array Oper} {a : Act} {w : World} (h : Q .normal a w) : wpLex P ops S (Ends Q) [] a w := by
  unfold wpLex
  exact ⟨rfl, h⟩
end
end Go.Proofs.Ytdhlbcbgbmgcjaa.Mix
