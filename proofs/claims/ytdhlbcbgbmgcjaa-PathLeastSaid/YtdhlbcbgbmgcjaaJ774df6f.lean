/- Lemmas that the proof stands on, in build order: PtO PtN0 GeRm. -/
import Derived.Deep.QuietTactic
import Derived.BigQuiet
import Derived.WalkMore
import Derived.Test.YtdhlbcbgbmgcjaaJ20d5a7c
import Derived.Test.YtdhlbcbgbmgcjaaJ6ea7323
/- Layer 17 (path): what the program's functions must do; the law's awake. -/
namespace Go.Proofs.Ytdhlbcbgbmgcjaa.Pt
open Go.RowKit Rec Ints Ge Gf Pa

structure Oks : Prop where
  from_ : ∀ (N : Nt) (A A' : Option Addr) (n c m c' : Nat) (s : Int) (w : World), NAt w w.heap.size N A n c A' m c' → Bnd N → n ≤ 1048576 → m ≤ 1048576 → B64 s →
    Calls Try.prog 8 #[.agg #[.int .i64 N.ver, .slice A n c, .slice A' m c'], .int .i64 s] w fun e w' => ∃ v, e = .returned (.tuple #[v, .int .i64 ((fromE N s : Nat) : Int)]) ∧ InTo w.heap.size w (fromL N s) v w'
  way : ∀ (N : Nt) (A A' : Option Addr) (n c m c' : Nat) (a b : Int) (w : World), NAt w w.heap.size N A n c A' m c' → Bnd N → n ≤ 1048576 → m ≤ 1048576 → B64 a → B64 b →
    Calls Try.prog 9 #[.agg #[.int .i64 N.ver, .slice A n c, .slice A' m c'], .int .i64 a, .int .i64 b] w fun e w' => ∃ v L d, e = .returned (.tuple #[v, .int .i64 d, .int .i64 ((wayE N a b : Nat) : Int)]) ∧ InTo w.heap.size w (nums L) v w' ∧ WayIs N a b L d
  weight : ∀ (N : Nt) (A A' : Option Addr) (n c m c' : Nat) (W : Option Addr) (k d : Nat) (way : List Int) (w : World), NAt w w.heap.size N A n c A' m c' → Bnd N → check N = 0 → RRow intS w w.heap.size W k way → (W = none → d = 0) → k ≤ d → d ≤ maxLen → k ≤ 8192 → (∀ x ∈ way, B64 x) →
    Calls Try.prog 11 #[.agg #[.int .i64 N.ver, .slice A n c, .slice A' m c'], .slice W k d] w fun e w' => e = .returned (.tuple #[.int .i64 (wyT N way).1, .bool (wyT N way).2]) ∧ Below w.heap.size w w'

set_option maxHeartbeats 800000 in
set_option maxRecDepth 100000 in
theorem awake_any (k : Oks) (w : World) : Calls Try.prog 6 #[] w fun e w' => e = .returned (.bool true) ∧ Below w.heap.size w w' := by
  obtain ⟨is, his, hsz0, hsz1, hsz2⟩ := info_of info_stopP
  go_enter Try.func6, Try.ntmps6
  go_wp2_with (at_make; go_loud (refine wpList_make_full _ rfl _ _ 22 rfl w.heap.size 54 is (.agg #[.int .i64 0, .int .i64 0]) 2 Try.underlying22 his hsz0 hsz1 _ _ _ _ 3 rfl rfl rfl rfl (by rw [hsz2]; omega) (by unfold maxLen; omega) (Nat.le_refl _) ?_); intro w2 hown2 hg2; rw [made_stops] at hown2; have HO2 := Lib.hid hown2; have HG2 := Lib.hid ((Below.refl w.heap.size w).grown hg2 (Nat.le_refl _) (fun j hj => by cases hj)); clear hown2 hg2)
  have HST : Hid (RRow twoS w2 w2.heap.size (some ⟨w.heap.size, 0, none⟩) 3 [(0, 0), (0, 0), (0, 0)]) := RRow.of_own (S := twoS) HO2.out
  have hb3 := (Below.refl w2.heap.size w2).alloc (Nat.le_refl _) (.cells #[.int .i64 0, .int .i64 1, .int .i64 4, .int .i64 1, .int .i64 2, .int .i64 6] 45)
  have hn3 : NAt (w2.alloc (.cells #[.int .i64 0, .int .i64 1, .int .i64 4, .int .i64 1, .int .i64 2, .int .i64 6] 45)) (w2.alloc (.cells #[.int .i64 0, .int .i64 1, .int .i64 4, .int .i64 1, .int .i64 2, .int .i64 6] 45)).heap.size exN (some ⟨w.heap.size, 0, none⟩) 3 3 (some ⟨w2.heap.size, 0, none⟩) 2 2 :=
    ⟨(HST.out.below hb3).more (by simp), RRow.of_blk (S := lkS) (l := [(0, 1, 4), (1, 2, 6)]) (heap_alloc_new w2 _) (by simp) rfl, (fun h => by cases h), Nat.le_refl _, (by unfold maxLen; omega), (fun h => by cases h), Nat.le_refl _, (by unfold maxLen; omega)⟩
  have hb4 := (Below.refl (w2.alloc (.cells #[.int .i64 0, .int .i64 1, .int .i64 4, .int .i64 1, .int .i64 2, .int .i64 6] 45)).heap.size _).alloc (Nat.le_refl _) (.cells #[.int .i64 1, .slice (some ⟨w.heap.size, 0, none⟩) 3 3, .slice (some ⟨w2.heap.size, 0, none⟩) 2 2] 25)
  have HN3 := Lib.hid (hn3.up hb4)
  have HB3 := Lib.hid ((HG2.out.trans (hb3.mono HG2.out.size)).trans (hb4.mono (Nat.le_trans HG2.out.size hb3.size)))
  have HBD : Hid (Bnd exN) := ⟨⟨by decide, by decide⟩, by unfold B64p B64; decide, by unfold B64; decide⟩
  clear HST hb3 hb4 hn3 HO2 HG2
  generalize (w2.alloc (.cells #[.int .i64 0, .int .i64 1, .int .i64 4, .int .i64 1, .int .i64 2, .int .i64 6] 45)).alloc (.cells #[.int .i64 1, .slice (some ⟨w.heap.size, 0, none⟩) 3 3, .slice (some ⟨w2.heap.size, 0, none⟩) 2 2] 25) = w3 at *
  refine (k.way exN _ _ 3 3 2 2 0 2 w3 HN3.out HBD.out (by omega) (by omega) ⟨by omega, by omega⟩ ⟨by omega, by omega⟩).mono ?_
  rw [ex_E]
  rintro e4 w4 ⟨v4, L, d, rfl, hin, hw⟩
  obtain ⟨rfl, rfl⟩ := ex_is hw
  obtain ⟨A4, n4, c4, rfl, hr4, -, -, -, hb4⟩ := hin
  have hn4 : 3 = n4 := hr4.len
  subst hn4
  have HR4 : Hid (RRow intS w4 w4.heap.size A4 3 [0, 1, 2]) := hr4
  have HB4 := Lib.hid (HB3.out.trans (hb4.mono HB3.out.size))
  clear hr4 hb4 HN3 HB3 hw
  have hb5 := (Below.refl w4.heap.size w4).alloc (Nat.le_refl _) (.cells #[.int .i64 0, .int .i64 1, .int .i64 2] 3)
  have HRX : Hid (RRow intS (w4.alloc (.cells #[.int .i64 0, .int .i64 1, .int .i64 2] 3)) (w4.alloc (.cells #[.int .i64 0, .int .i64 1, .int .i64 2] 3)).heap.size (some ⟨w4.heap.size, 0, none⟩) 3 [0, 1, 2]) := RRow.of_blk (S := intS) (l := [0, 1, 2]) (heap_alloc_new w4 _) (by simp) rfl
  have HR5 : Hid (RRow intS (w4.alloc (.cells #[.int .i64 0, .int .i64 1, .int .i64 2] 3)) w4.heap.size A4 3 [0, 1, 2]) := HR4.out.below hb5
  have HB5 := Lib.hid (HB4.out.trans (hb5.mono HB4.out.size))
  clear HR4 hb5 HB4
  go_wp2_with fail
  generalize w4.alloc (.cells #[.int .i64 0, .int .i64 1, .int .i64 2] 3) = w5 at *
  refine (isame_any A4 _ 3 3 c4 3 _ _ [0, 1, 2] [0, 1, 2] w5 (by omega) HR5.out HRX.out).mono ?_
  rw [show decide (([0, 1, 2] : List Int) = [0, 1, 2]) = true from rfl]
  rintro e6 w6 ⟨rfl, q6, rfl⟩
  go_wp2
  go_ret
  exact ⟨rfl, below_drewN HB5.out q6⟩

/-- What the laws keep: the network and the two stops in boxes. -/
structure Bp (w : World) (N : Nt) (A : Option Addr) (n c : Nat) (A' : Option Addr) (m c' : Nat) (W : Option Addr) (k : Nat) (way : List Int) (wr : World) : Prop where
  nat : NAt w w.heap.size N A n c A' m c'
  row : RRow intS w w.heap.size W k way
  blk : wr.heap[w.heap.size]? = some (.cells #[.int .i64 N.ver, .slice A n c, .slice A' m c'] 25)
  bel : Below w.heap.size w wr
theorem Bp.lt {w wr : World} {N : Nt} {A A' W : Option Addr} {n c m c' k : Nat} {way : List Int} (h : Bp w N A n c A' m c' W k way wr) : w.heap.size < wr.heap.size := (Array.getElem?_eq_some_iff.1 h.blk).1
theorem Bp.up {w wr w2 : World} {N : Nt} {A A' W : Option Addr} {n c m c' k : Nat} {way : List Int} (h : Bp w N A n c A' m c' W k way wr) (hb : Below wr.heap.size wr w2) : Bp w N A n c A' m c' W k way w2 :=
  ⟨h.nat, h.row, (hb.block _ h.lt).trans h.blk, h.bel.trans (hb.mono h.bel.size)⟩
theorem Bp.at {w wr : World} {N : Nt} {A A' W : Option Addr} {n c m c' k : Nat} {way : List Int} (h : Bp w N A n c A' m c' W k way wr) : NAt wr wr.heap.size N A n c A' m c' := (h.nat.below h.bel).more h.bel.size
theorem Bp.rw {w wr : World} {N : Nt} {A A' W : Option Addr} {n c m c' k : Nat} {way : List Int} (h : Bp w N A n c A' m c' W k way wr) : RRow intS wr wr.heap.size W k way := (h.row.below h.bel).more h.bel.size
end Go.Proofs.Ytdhlbcbgbmgcjaa.Pt

/- Layer 17 (path): mathematics of ways: a best way's weight is its distance; no way has less. -/
namespace Go.Proofs.Ytdhlbcbgbmgcjaa.Pt
open Go.RowKit Rec Ints Ge Gf Pa

theorem from_bad {N : Nt} (hc : check N = 0) {a : Int} (h : a < 0 ∨ (N.st.length : Int) ≤ a) : ((fromE N a : Nat) : Int) = 2 ∧ fromL N a = [] ∧ ∀ b, ((wayE N a b : Nat) : Int) = 2 ∧ wayE N a b ≠ 0 := by
  have e : fromE N a = 2 := by unfold fromE; rw [if_neg (fun h => h hc), if_pos h]
  refine ⟨by rw [e]; rfl, by unfold fromL; rw [if_neg (by rw [e]; omega)], fun b => ?_⟩
  have e2 : wayE N a b = 2 := by unfold wayE; rw [if_neg (fun h => h hc), if_pos (Or.inl h)]
  rw [e2]
  exact ⟨rfl, by omega⟩
theorem from_good {N : Nt} (hc : check N = 0) {a : Int} (h : ¬ (a < 0 ∨ (N.st.length : Int) ≤ a)) : ((fromE N a : Nat) : Int) = 0 ∧ fromL N a = farL N a.toNat := by
  have e : fromE N a = 0 := by unfold fromE; rw [if_neg (fun h => h hc), if_neg h]
  exact ⟨by rw [e]; rfl, by unfold fromL; rw [if_pos e]⟩
theorem way_bad {N : Nt} (hc : check N = 0) {a b : Int} (h : b < 0 ∨ (N.st.length : Int) ≤ b) : ((wayE N a b : Nat) : Int) = 2 ∧ wayE N a b ≠ 0 := by
  have e2 : wayE N a b = 2 := by unfold wayE; rw [if_neg (fun h => h hc), if_pos (Or.inr h)]
  rw [e2]
  exact ⟨rfl, by omega⟩
theorem way_none {N : Nt} (hc : check N = 0) {a b : Int} (h : ¬ (a < 0 ∨ (N.st.length : Int) ≤ a)) (h' : ¬ (b < 0 ∨ (N.st.length : Int) ≤ b)) (hd : dis N a.toNat b.toNat = none) : ((wayE N a b : Nat) : Int) = 30 ∧ wayE N a b ≠ 0 := by
  have e2 : wayE N a b = 30 := by unfold wayE; rw [if_neg (fun h => h hc), if_neg (fun x => x.elim h h'), if_pos hd]
  rw [e2]
  exact ⟨rfl, by omega⟩
theorem way_ok {N : Nt} (hc : check N = 0) {a b : Int} (h : ¬ (a < 0 ∨ (N.st.length : Int) ≤ a)) (h' : ¬ (b < 0 ∨ (N.st.length : Int) ≤ b)) (hd : dis N a.toNat b.toNat ≠ none) : ((wayE N a b : Nat) : Int) = 0 ∧ wayE N a b = 0 := by
  have e2 : wayE N a b = 0 := by unfold wayE; rw [if_neg (fun h => h hc), if_neg (fun x => x.elim h h'), if_neg hd]
  rw [e2]
  exact ⟨rfl, rfl⟩

theorem few_nats : ∀ (n : Nat) (l : List Nat), l.Nodup → (∀ x ∈ l, x < n) → l.length ≤ n
  | 0, l, _, h => by
    cases l with
    | nil => exact Nat.le_refl _
    | cons x l => exact absurd (h x List.mem_cons_self) (by omega)
  | n + 1, l, hn, h => by
    by_cases hm : n ∈ l
    · have h1 := few_nats n (l.erase n) (hn.erase n) (fun x hx => by
        have h2 := (hn.mem_erase_iff).1 hx
        have h3 := h x h2.2
        have h4 := h2.1
        omega)
      have h2 := List.length_erase_of_mem hm
      omega
    · have h1 := few_nats n l hn (fun x hx => by
        have h3 := h x hx
        have h4 : x ≠ n := fun e => hm (e ▸ hx)
        omega)
      omega
theorem Bw.nodup {N : Nt} {d : D} {s v : Nat} {l : List Nat} (h : Bw N d s v l) (hs : s < N.st.length) (hv : v < N.st.length) : l.Nodup ∧ ∀ x ∈ l, x < N.st.length ∧ fz (d x) ≤ fz (d v) := by
  induction h with
  | nil => exact ⟨List.nodup_cons.2 ⟨List.not_mem_nil, List.nodup_nil⟩, fun x hx => by obtain rfl := List.mem_singleton.1 hx; exact ⟨hs, Int.le_refl _⟩⟩
  | @step v u l hne hn _ ih =>
    obtain ⟨h1, h2⟩ := ih hn.1
    have h3 := hn.2.1
    refine ⟨List.nodup_append.2 ⟨h1, List.nodup_cons.2 ⟨List.not_mem_nil, List.nodup_nil⟩, fun a ha b hb => ?_⟩, fun x hx => ?_⟩
    · obtain rfl := List.mem_singleton.1 hb
      rintro rfl
      have h4 := (h2 a ha).2
      have h5 := h3.1
      have h6 := h3.2.2
      omega
    · rcases List.mem_append.1 hx with hx | hx
      · have h4 := h2 x hx
        have h5 := h3.1
        have h6 := h3.2.2
        exact ⟨h4.1, by omega⟩
      · obtain rfl := List.mem_singleton.1 hx
        exact ⟨hv, Int.le_refl _⟩
theorem Bw.len {N : Nt} {d : D} {s v : Nat} {l : List Nat} (h : Bw N d s v l) (hs : s < N.st.length) (hv : v < N.st.length) : l.length ≤ N.st.length :=
  few_nats _ _ (h.nodup hs hv).1 fun x hx => ((h.nodup hs hv).2 x hx).1

theorem wy_none {N : Nt} {way : List Int} (h : way = [] ∨ way.getD 0 0 < 0 ∨ (N.st.length : Int) ≤ way.getD 0 0) : wyT N way = (0, false) := by unfold wyT; rw [if_pos h]
theorem wy_yes {N : Nt} {way : List Int} (h : ¬ (way = [] ∨ way.getD 0 0 < 0 ∨ (N.st.length : Int) ≤ way.getD 0 0)) (hs : Steps N.lk way (way.length - 1)) : wyT N way = (sm N.lk way (way.length - 1), true) := by unfold wyT; rw [if_neg h, if_pos hs]
theorem wy_no {N : Nt} {way : List Int} (hs : ¬ Steps N.lk way (way.length - 1)) : wyT N way = (0, false) := by
  unfold wyT
  by_cases h : way = [] ∨ way.getD 0 0 < 0 ∨ (N.st.length : Int) ≤ way.getD 0 0
  · rw [if_pos h]
  · rw [if_neg h, if_neg hs]

theorem low_of {N : Nt} (h : Valid N) {way : List Int} (h0 : 0 ≤ way.getD 0 0 ∧ way.getD 0 0 < (N.st.length : Int)) {k : Nat} (hst : Steps N.lk way k) :
    (0 ≤ way.getD k 0 ∧ way.getD k 0 < (N.st.length : Int)) ∧ dis N (way.getD 0 0).toNat (way.getD k 0).toNat ≠ none ∧ fz (dis N (way.getD 0 0).toNat (way.getD k 0).toNat) ≤ sm N.lk way k := by
  obtain ⟨h1, h2, _, h4⟩ := steps_way h h0 hst
  obtain ⟨m, e, hm⟩ := (dis_is h _).low _ _ h4
  rw [e]
  exact ⟨h1, by simp, by show (m : Int) ≤ _; omega⟩
theorem wyT_true {N : Nt} {way : List Int} (h : (wyT N way).2 = true) : way ≠ [] ∧ (0 ≤ way.getD 0 0 ∧ way.getD 0 0 < (N.st.length : Int)) ∧ Steps N.lk way (way.length - 1) ∧ (wyT N way).1 = sm N.lk way (way.length - 1) := by
  by_cases hb : way = [] ∨ way.getD 0 0 < 0 ∨ (N.st.length : Int) ≤ way.getD 0 0
  · rw [wy_none hb] at h
    cases h
  · by_cases hs : Steps N.lk way (way.length - 1)
    · refine ⟨fun e => hb (.inl e), ?_, hs, by rw [wy_yes hb hs]⟩
      simp only [not_or] at hb
      omega
    · rw [wy_no hs] at h
      cases h
theorem wyT_false {N : Nt} {way : List Int} (h : (wyT N way).2 = false) : (wyT N way).1 = 0 := by
  by_cases hb : way = [] ∨ way.getD 0 0 < 0 ∨ (N.st.length : Int) ≤ way.getD 0 0
  · rw [wy_none hb]
  · by_cases hs : Steps N.lk way (way.length - 1)
    · rw [wy_yes hb hs] at h
      cases h
    · rw [wy_no hs]
theorem sm_congr {L : List L3} {a b : List Int} : ∀ {k : Nat}, (∀ i, i ≤ k → a.getD i 0 = b.getD i 0) → sm L a k = sm L b k
  | 0, _ => rfl
  | k + 1, h => by
    show sm L a k + wt L (a.getD k 0) (a.getD (k + 1) 0) = sm L b k + wt L (b.getD k 0) (b.getD (k + 1) 0)
    rw [sm_congr (k := k) fun i hi => h i (by omega), h k (by omega), h (k + 1) (Nat.le_refl _)]
theorem Bw.sum {N : Nt} (hv : Valid N) {s v : Nat} {l : List Nat} (h : Bw N (dis N s) s v l) :
    0 < l.length ∧ (nums l).getD 0 0 = (s : Int) ∧ (nums l).getD (l.length - 1) 0 = (v : Int) ∧ Steps N.lk (nums l) (l.length - 1) ∧ sm N.lk (nums l) (l.length - 1) = fz (dis N s v) := by
  induction h with
  | nil => exact ⟨Nat.one_pos, rfl, rfl, fun i hi => absurd hi (by simp), by rw [(dis_is hv s).zero]; rfl⟩
  | @step v u l hne hn _ ih =>
    obtain ⟨h1, h2, h3, h4, h5⟩ := ih
    obtain ⟨m, hm⟩ : ∃ m, l.length = m + 1 := ⟨l.length - 1, by omega⟩
    have hpre : ∀ i, i < l.length → (nums (l ++ [v])).getD i 0 = (nums l).getD i 0 := fun i hi => by
      rw [nums_cat, List.getD_eq_getElem?_getD, List.getD_eq_getElem?_getD, List.getElem?_append_left (by rw [nums_len]; exact hi)]
    have hlast : (nums (l ++ [v])).getD l.length 0 = (v : Int) := by
      rw [nums_cat, List.getD_eq_getElem?_getD, List.getElem?_append_right (by rw [nums_len]; exact Nat.le_refl _), nums_len, Nat.sub_self]
      rfl
    have e : (l ++ [v]).length - 1 = m + 1 := by rw [List.length_append, List.length_singleton, hm]; omega
    have e' : l.length - 1 = m := by omega
    rw [e'] at h3 h4 h5
    rw [hm] at hlast
    have hf := hn.2.1
    have hw : wt N.lk ((nums (l ++ [v])).getD m 0) ((nums (l ++ [v])).getD (m + 1) 0) = wt N.lk (v : Int) (u : Int) := by
      rw [hpre m (by omega), h3, hlast, wt_sym]
    rw [e]
    refine ⟨by rw [List.length_append]; omega, by rw [hpre 0 h1]; exact h2, hlast, steps_succ (fun i hi => ?_) (by rw [hw]; have := hf.1; omega), ?_⟩
    · have h6 := h4 i hi
      rw [← hpre i (by omega), ← hpre (i + 1) (by omega)] at h6
      exact h6
    · show sm N.lk (nums (l ++ [v])) m + wt N.lk ((nums (l ++ [v])).getD m 0) ((nums (l ++ [v])).getD (m + 1) 0) = _
      rw [hw, sm_congr (b := nums l) fun i hi => hpre i (by omega), h5]
      have := hf.2.2
      omega
theorem Bw.wy {N : Nt} (hv : Valid N) {s v : Nat} (hs : s < N.st.length) {l : List Nat} (h : Bw N (dis N s) s v l) : wyT N (nums l) = (fz (dis N s v), true) := by
  obtain ⟨h1, h2, h3, h4, h5⟩ := h.sum hv
  have hb : ¬ (nums l = [] ∨ (nums l).getD 0 0 < 0 ∨ (N.st.length : Int) ≤ (nums l).getD 0 0) := by
    rw [h2]
    rintro (e | e | e)
    · have := nums_len l
      rw [e] at this
      simp at this
      omega
    · omega
    · omega
  have e : (nums l).length - 1 = l.length - 1 := by rw [nums_len]
  rw [wy_yes hb (by rw [e]; exact h4), e, h5]
end Go.Proofs.Ytdhlbcbgbmgcjaa.Pt

/- Layer 13 (geo): the reference's May, as a contract. -/
namespace Go.Proofs.Ytdhlbcbgbmgcjaa.Ge
open Go.RowKit Rec

set_option maxRecDepth 100000 in
theorem refmay_any (x y : Int) (w : World) : Calls Try.prog 20 #[.int .i64 x, .int .i64 y] w fun e w' => e = .returned (.bool (decide (may x y))) ∧ w' = w := by
  by_cases h0 : 0 ≤ x
  · have d0 : decide (0 ≤ x) = true := decide_eq_true h0
    by_cases h1 : x < 67108864
    · have d1 : decide (x < 67108864) = true := decide_eq_true h1
      by_cases h2 : 0 ≤ y
      · have d2 : decide (0 ≤ y) = true := decide_eq_true h2
        have hm : decide (may x y) = decide (y < 67108864) := decide_eq_decide.2 ⟨fun h => h.2.2, fun h => ⟨⟨h0, h1⟩, h2, h⟩⟩
        rw [hm]
        clear hm
        go_enter Try.func20, Try.ntmps20
        go_wp2
        go_ret
        exact ⟨rfl, rfl⟩
      · have d2 : decide (0 ≤ y) = false := decide_eq_false h2
        have hm : decide (may x y) = false := decide_eq_false fun h => h2 h.2.1
        rw [hm]
        go_enter Try.func20, Try.ntmps20
        go_wp2
        go_ret
        exact ⟨rfl, rfl⟩
    · have d1 : decide (x < 67108864) = false := decide_eq_false h1
      have hm : decide (may x y) = false := decide_eq_false fun h => h1 h.1.2
      rw [hm]
      go_enter Try.func20, Try.ntmps20
      go_wp2
      go_ret
      exact ⟨rfl, rfl⟩
  · have d0 : decide (0 ≤ x) = false := decide_eq_false h0
    have hm : decide (may x y) = false := decide_eq_false fun h => h0 h.1.1
    rw [hm]
    go_enter Try.func20, Try.ntmps20
    go_wp2
    go_ret
    exact ⟨rfl, rfl⟩
end Go.Proofs.Ytdhlbcbgbmgcjaa.Ge
