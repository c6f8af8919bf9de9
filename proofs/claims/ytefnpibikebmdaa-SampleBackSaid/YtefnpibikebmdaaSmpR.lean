/- Layer 5 (sample): samples in memory; May and its reference, inPlane, follows, as contracts. -/
import Derived.Test.YtefnpibikebmdaaSmpM
namespace Go.Proofs.Ytefnpibikebmdaa.Smp
open Go.RowKit Var Fld

def S.cells (s : S) : Array Value := #[.int .i64 s.t, .int .i64 s.x, .int .i64 s.y]
def S.val (s : S) : Value := .agg s.cells
/-- The cells of many. -/
def flat (ss : List S) : List Value := ss.flatMap fun s => [.int .i64 s.t, .int .i64 s.x, .int .i64 s.y]
theorem flat_len (ss : List S) : (flat ss).length = ss.length * 3 := by
  induction ss with
  | nil => rfl
  | cons s ss ih => simp only [flat, List.flatMap_cons, List.length_append, List.length_cons, List.length_nil] at ih ⊢; omega
theorem flat_snoc (ss : List S) (s : S) : flat (ss ++ [s]) = flat ss ++ [.int .i64 s.t, .int .i64 s.x, .int .i64 s.y] := by simp [flat]
theorem flat_at : ∀ {ss : List S} {j : Nat} {s : S}, ss[j]? = some s → ∀ i, i < 3 → (flat ss)[j * 3 + i]? = s.cells[i]?
  | [], _, _, h, _, _ => by simp at h
  | u :: ss, 0, s, h, i, hi => by
    simp at h
    subst h
    match i, hi with
    | 0, _ => rfl
    | 1, _ => rfl
    | 2, _ => rfl
  | u :: ss, j + 1, s, h, i, hi => by
    have h' : ss[j]? = some s := by simpa using h
    have := flat_at h' i hi
    have e : (j + 1) * 3 + i = (j * 3 + i) + 3 := by omega
    rw [e]
    simpa [flat] using this

/-- The slice '.slice A n c' reads as the samples ss, below block B. -/
def SRow (w : World) (B : Nat) (A : Option Addr) (n : Nat) (ss : List S) : Prop :=
  ss.length = n ∧ (∀ s ∈ ss, s.ok) ∧ (0 < n → ∃ b o, A = some ⟨b, o, none⟩ ∧ b < B ∧ ∀ j s, ss[j]? = some s → ∀ i, i < 3 → w.cell? ⟨b, o + j * 3 + i, none⟩ = s.cells[i]?)

section
variable {w w' : World} {B B' n : Nat} {A : Option Addr} {ss : List S}
theorem SRow.len (h : SRow w B A n ss) : ss.length = n := h.1
theorem SRow.below (h : SRow w B A n ss) (hb : Below B w w') : SRow w' B A n ss :=
  ⟨h.1, h.2.1, fun hn => by
    obtain ⟨b, o, e, hlt, hc⟩ := h.2.2 hn
    exact ⟨b, o, e, hlt, fun j f hj i hi => (hb.cell (by exact hlt)).trans (hc j f hj i hi)⟩⟩
theorem SRow.more (h : SRow w B A n ss) (hB : B ≤ B') : SRow w B' A n ss :=
  ⟨h.1, h.2.1, fun hn => by
    obtain ⟨b, o, e, hlt, hc⟩ := h.2.2 hn
    exact ⟨b, o, e, by omega, hc⟩⟩
theorem SRow.only {M : Nat → Prop} (h : SRow w B A n ss) (ho : Only M w w') (hB : B ≤ w.heap.size) (hM : ∀ b o, A = some ⟨b, o, none⟩ → b < B → ¬ M b) : SRow w' B A n ss :=
  ⟨h.1, h.2.1, fun hn => by
    obtain ⟨b, o, e, hlt, hc⟩ := h.2.2 hn
    exact ⟨b, o, e, hlt, fun j f hj i hi => (World.cell?_of_block (w := w) (ho.block b (by omega) (hM b o e hlt))).trans (hc j f hj i hi)⟩⟩
theorem SRow.at (h : SRow w B A n ss) {j : Nat} (hj : j < n) : ∃ b o s, A = some ⟨b, o, none⟩ ∧ b < B ∧ ss[j]? = some s ∧ s.ok ∧ w.cell? ⟨b, o + j * 3, none⟩ = some (.int .i64 s.t) ∧ w.cell? ⟨b, o + j * 3 + 1, none⟩ = some (.int .i64 s.x) ∧
    w.cell? ⟨b, o + j * 3 + 2, none⟩ = some (.int .i64 s.y) := by
  obtain ⟨b, o, e, hlt, hc⟩ := h.2.2 (by omega)
  have hl : j < ss.length := by rw [h.1]; exact hj
  have hf : ss[j]? = some ss[j] := List.getElem?_eq_getElem hl
  exact ⟨b, o, ss[j], e, hlt, hf, h.2.1 _ (List.getElem_mem hl), hc j _ hf 0 (by omega), hc j _ hf 1 (by omega), hc j _ hf 2 (by omega)⟩
theorem SRow.nil_ : SRow w B A 0 [] := ⟨rfl, by simp, fun h => absurd h (by omega)⟩
theorem SRow.take (h : SRow w B A n ss) {k : Nat} (hk : k ≤ n) : SRow w B A k (ss.take k) := by
  refine ⟨by rw [List.length_take, h.1]; omega, fun s hs => h.2.1 s (List.mem_of_mem_take hs), fun hn => ?_⟩
  obtain ⟨b, o, e, hlt, hc⟩ := h.2.2 (by omega)
  refine ⟨b, o, e, hlt, fun j s hj i hi => hc j s ?_ i hi⟩
  have hjk : j < k := by
    have := (List.getElem?_eq_some_iff.1 hj).1
    simp at this
    omega
  rwa [List.getElem?_take_of_lt hjk] at hj
/-- A row of one's own reads as its samples. -/
theorem SRow.of_own {base c : Nat} {e : TypeId} (h : w.ownsRow base e 3 (.slice A n c) n (flat ss)) (hok : ∀ s ∈ ss, s.ok) : SRow w w.heap.size A n ss := by
  have hl : ss.length = n := by have := h.1; rw [flat_len] at this; omega
  refine ⟨hl, hok, fun hn => ?_⟩
  have hh := h
  rcases h.2 with ⟨h0, h1⟩ | ⟨g, cap, cur, hv, _, hg, _, _, _, _⟩
  · omega
  · injection hv with h1 h2 h3
    subst h1; subst h3
    refine ⟨g, 0, rfl, (Array.getElem?_eq_some_iff.1 hg).1, fun j s hj i hi => ?_⟩
    have hx := flat_at hj i hi
    have hs : i < s.cells.size := hi
    rw [Array.getElem?_eq_getElem hs] at hx ⊢
    have := hh.cells (g := g) rfl (j * 3 + i) _ hx
    have hadd : (⟨g, 0, none⟩ : Addr).add (j * 3 + i) = ⟨g, 0 + (j * 3 + i), none⟩ := by unfold Addr.add; split <;> simp_all
    rw [hadd] at this
    rw [Nat.add_assoc]
    exact this
end

theorem inPlane_any (n : Int) (w : World) : Calls Try.prog 19 #[.int .i64 n] w fun e w' => e = .returned (.bool (decide (0 ≤ n) && decide (n < 67108864))) ∧ w' = w := by
  by_cases h0 : 0 ≤ n
  · have d0 : decide (0 ≤ n) = true := decide_eq_true h0
    rw [d0]
    go_enter Try.func19, Try.ntmps19
    go_wp2
    go_ret
    exact ⟨rfl, rfl⟩
  · have d0 : decide (0 ≤ n) = false := decide_eq_false h0
    rw [d0]
    go_enter Try.func19, Try.ntmps19
    go_wp2
    go_ret
    exact ⟨rfl, rfl⟩

theorem boxed (w : World) (s : S) (t : TypeId) : (w.alloc (.cells s.cells t)).cell? ⟨w.heap.size, 0, none⟩ = some (.int .i64 s.t) ∧ (w.alloc (.cells s.cells t)).cell? ⟨w.heap.size, 1, none⟩ = some (.int .i64 s.x) ∧ (w.alloc (.cells s.cells t)).cell? ⟨w.heap.size, 2, none⟩ = some (.int .i64 s.y) :=
  ⟨cell_of_blk (heap_alloc_new w _) rfl, cell_of_blk (heap_alloc_new w _) rfl, cell_of_blk (heap_alloc_new w _) rfl⟩

set_option maxHeartbeats 800000 in
set_option maxRecDepth 100000 in
theorem may_any (s : S) (w : World) : Calls Try.prog 10 #[s.val] w fun e w' => e = .returned (.bool (may s)) ∧ w' = w.alloc (.cells s.cells 32) := by
  have arm := fun n w => Lib.hid (inPlane_any n w)
  unfold may S.val
  have eS : s.cells = #[.int .i64 s.t, .int .i64 s.x, .int .i64 s.y] := rfl
  rw [eS]
  by_cases h0 : 0 ≤ s.t
  · have d0 : decide (0 ≤ s.t) = true := decide_eq_true h0
    by_cases h1 : s.t ≤ 1099511627776
    · have d1 : decide (s.t ≤ 1099511627776) = true := decide_eq_true h1
      rw [d0, d1]
      cases hx : (decide (0 ≤ s.x) && decide (s.x < 67108864)) with
      | true =>
        go_enter Try.func10, Try.ntmps10
        go_wp2_with fail
        refine (inPlane_any s.x _).mono ?_
        rw [hx]
        rintro e w1 ⟨rfl, rfl⟩
        go_wp2_with fail
        refine (inPlane_any s.y _).mono ?_
        rintro e w1 ⟨rfl, rfl⟩
        go_wp2
        go_ret
        exact ⟨rfl, rfl⟩
      | false =>
        go_enter Try.func10, Try.ntmps10
        go_wp2_with fail
        refine (inPlane_any s.x _).mono ?_
        rw [hx]
        rintro e w1 ⟨rfl, rfl⟩
        go_wp2
        go_ret
        exact ⟨rfl, rfl⟩
    · have d1 : decide (s.t ≤ 1099511627776) = false := decide_eq_false h1
      rw [d0, d1]
      go_enter Try.func10, Try.ntmps10
      go_wp2
      go_ret
      exact ⟨rfl, rfl⟩
  · have d0 : decide (0 ≤ s.t) = false := decide_eq_false h0
    rw [d0]
    go_enter Try.func10, Try.ntmps10
    go_wp2
    go_ret
    exact ⟨rfl, rfl⟩

set_option maxHeartbeats 800000 in
set_option maxRecDepth 100000 in
theorem refmay_any (s : S) (w : World) : Calls Try.prog 11 #[s.val] w fun e w' => e = .returned (.bool (may s)) ∧ w' = w.alloc (.cells s.cells 32) := by
  unfold may S.val
  have eS : s.cells = #[.int .i64 s.t, .int .i64 s.x, .int .i64 s.y] := rfl
  rw [eS]
  by_cases h0 : 0 ≤ s.t
  · have d0 : decide (0 ≤ s.t) = true := decide_eq_true h0
    by_cases h1 : s.t ≤ 1099511627776
    · have d1 : decide (s.t ≤ 1099511627776) = true := decide_eq_true h1
      rw [d0, d1]
      by_cases h2 : 0 ≤ s.x
      · have d2 : decide (0 ≤ s.x) = true := decide_eq_true h2
        by_cases h3 : s.x < 67108864
        · have d3 : decide (s.x < 67108864) = true := decide_eq_true h3
          rw [d2, d3]
          by_cases h4 : 0 ≤ s.y
          · have d4 : decide (0 ≤ s.y) = true := decide_eq_true h4
            rw [d4]
            go_enter Try.func11, Try.ntmps11
            go_wp2
            go_ret
            exact ⟨rfl, rfl⟩
          · have d4 : decide (0 ≤ s.y) = false := decide_eq_false h4
            rw [d4]
            go_enter Try.func11, Try.ntmps11
            go_wp2
            go_ret
            exact ⟨rfl, rfl⟩
        · have d3 : decide (s.x < 67108864) = false := decide_eq_false h3
          rw [d2, d3]
          go_enter Try.func11, Try.ntmps11
          go_wp2
          go_ret
          exact ⟨rfl, rfl⟩
      · have d2 : decide (0 ≤ s.x) = false := decide_eq_false h2
        rw [d2]
        go_enter Try.func11, Try.ntmps11
        go_wp2
        go_ret
        exact ⟨rfl, rfl⟩
    · have d1 : decide (s.t ≤ 1099511627776) = false := decide_eq_false h1
      rw [d0, d1]
      go_enter Try.func11, Try.ntmps11
      go_wp2
      go_ret
      exact ⟨rfl, rfl⟩
  · have d0 : decide (0 ≤ s.t) = false := decide_eq_false h0
    rw [d0]
    go_enter Try.func11, Try.ntmps11
    go_wp2
    go_ret
    exact ⟨rfl, rfl⟩
end Go.Proofs.Ytefnpibikebmdaa.Smp
