/- Layer 12 (revoke), the landed program: slices.IndexFunc, slices.DeleteFunc, Prune, as contracts. -/
import Derived.Test.YtfmmpmpafgbidaaRvB
import Derived.Test.YtfmmpmpafgbidaaRvC
namespace Go.Proofs.Ytfmmpmpafgbidaa.Rv
open Go.RowKit Rec

theorem zero_rv : ∀ w, (zeroValue 24).run Try.prog w = .ok (.agg (rvS.f ((0, 0) : P)).toArray) w := fun w => by kernel_rfl
theorem take_filter {f : P → Bool} {l : List P} {k : Nat} {s : P} (h : l[k]? = some s) : (l.take (k + 1)).filter f = (l.take k).filter f ++ (if f s then [s] else []) := by
  rw [List.take_add_one, h, List.filter_append]
  congr 1
  cases hf : f s <;> simp [hf]
theorem own_hold {w : World} {base n c : Nat} {A : Option Addr} {l : List P} (h : w.ownsRow base 24 2 (.slice A n c) n (rvS.flat l)) : (A = none ∧ c = 0 ∧ l = [] ∧ n = 0) ∨ ∃ g, A = some ⟨g, 0, none⟩ ∧ Hold rvS w base 24 g c l ∧ l.length = n := by
  have h' : w.ownsRow base 24 rvS.c (.slice A n c) n (rvS.flat l) := h
  rcases h.2 with ⟨h1, h2⟩ | ⟨g, cap, cur, h1, h2⟩
  · injection h1 with h3 h4 h5
    subst h2
    have hl := h.1
    rw [flat_len] at hl
    have : l.length * 2 = 0 := by rw [Nat.zero_mul] at hl; exact hl
    exact .inl ⟨h3, h5, List.eq_nil_of_length_eq_zero (by omega), rfl⟩
  · injection h1 with h3 h4 h5
    subst h3 h5
    exact .inr ⟨g, rfl, Hold.of_own h'⟩

set_option maxHeartbeats 1600000 in
set_option maxRecDepth 100000 in
/-- slices.IndexFunc: the first element for which it holds, or -1. -/
theorem index_any (A : Option Addr) (n c fn : Nat) (q : Value) (hold : P → Bool) (l : List P) (w : World) (h : RRow rvS w w.heap.size A n l) (hn : n ≤ 100000) (hent : ∀ (args : Array Value) (w : World), (callFunc fn args).run Try.prog w = .ok (.enter fn args) w)
    (how : ∀ (p : P) (w' : World), Below w.heap.size w w' → Calls Try.prog fn #[.agg #[.int .i64 p.1, .int .i64 p.2], q] w' fun e w'' => e = .returned (.bool (hold p)) ∧ Below w'.heap.size w' w'') :
    Calls Try.prog 24 #[.slice A n c, .func (.func fn) #[] #[q]] w fun e w' =>
      ∃ r : Int, e = .returned (.int .i64 r) ∧ ((r = -1 ∧ l.filter (fun p => !hold p) = l) ∨ ∃ (k : Nat) (p : P), k < n ∧ r = (k : Int) ∧ l[k]? = some p ∧ hold p = true ∧ (l.take k).filter (fun p => !hold p) = l.take k) ∧ Below w.heap.size w w' := by
  have H := Lib.hid h
  have HH := Lib.hid how
  have HL := Lib.hid h.len
  clear h how
  go_enter Try.func24, Try.ntmps24
  go_wp2
  go_loopw [8] (fun i wr => ∃ k : Nat, k ≤ n ∧ i = .int .i64 (k : Int) ∧ Hid ((l.take k).filter (fun p => !hold p) = l.take k) ∧ Hid (Below w.heap.size w wr)) (fun i _ => n - (intOf i).toNat)
  case atStart => exact ⟨0, Nat.zero_le _, rfl, by unfold Hid; simp, Below.refl _ _⟩
  case round =>
    obtain ⟨k, hk, rfl, HO, HB⟩ := hrel
    by_cases hlt : k < n
    · obtain ⟨b, o, p, rfl, hbl, hp, c0, c1⟩ := rv_at (H.out.below HB.out) hlt
      have HP := Lib.hid hp
      have hkw : IntKind.i64.wrap ((k : Int) + 1) = (k : Int) + 1 := IntWalk.i64_in _ ⟨by omega, by omega⟩
      have h1 : (0 : Int) ≤ (k : Int) := by omega
      have h2 : (k : Int) < (n : Int) := by omega
      clear hp
      go_wp2_with fail
      refine (HH.out p wr HB.out).mono ?_
      rintro e1 w1 ⟨rfl, hb1⟩
      have HB1 := Lib.hid (HB.out.trans (hb1.mono HB.out.size))
      clear hb1
      cases hf : hold p with
      | true =>
        have HF := Lib.hid hf
        go_wp2
        go_ret
        exact ⟨(k : Int), rfl, .inr ⟨k, p, hlt, rfl, HP.out, HF.out, HO.out⟩, HB1.out⟩
      | false =>
        have HN : Hid ((l.take (k + 1)).filter (fun p => !hold p) = l.take (k + 1)) := by
          unfold Hid
          rw [take_filter HP.out, HO.out, hf, List.take_add_one, HP.out]
          rfl
        go_wp2
        go_roundw
        case rel => exact ⟨k + 1, by omega, by go_num, HN, HB1⟩
        case measure => simp [intOf]; omega
    · have hkn : k = n := by omega
      have ht : l.take k = l := List.take_of_length_le (by rw [HL.out]; omega)
      rw [ht] at HO
      go_wp2
      go_ret
      exact ⟨-1, rfl, .inl ⟨rfl, HO.out⟩, HB.out⟩

/-- Where slices.DeleteFunc stands: the first j are seen, i of them are kept. -/
structure Dels (hold : P → Bool) (l X : List P) (i j : Nat) : Prop where
  len : X.length = l.length
  head : X.take i = (l.take j).filter (fun p => !hold p)
  tail : X.drop j = l.drop j
  lt : i < j
  le : j ≤ l.length
theorem Dels.start {hold : P → Bool} {l : List P} {k : Nat} {p : P} (hk : k < l.length) (hp : l[k]? = some p) (hh : hold p = true) (h : (l.take k).filter (fun p => !hold p) = l.take k) : Dels hold l l k (k + 1) :=
  ⟨rfl, by rw [take_filter hp, h, hh]; simp, rfl, by omega, by omega⟩
theorem Dels.at {hold : P → Bool} {l X : List P} {i j : Nat} (h : Dels hold l X i j) {p : P} (hp : l[j]? = some p) : X[j]? = some p := by
  have h1 : (X.drop j)[0]? = (l.drop j)[0]? := by rw [h.tail]
  rw [List.getElem?_drop, List.getElem?_drop] at h1
  rw [← hp]
  simpa using h1
theorem Dels.skip {hold : P → Bool} {l X : List P} {i j : Nat} (h : Dels hold l X i j) {p : P} (hp : l[j]? = some p) (hh : hold p = true) : Dels hold l X i (j + 1) := by
  have hj : j < l.length := (List.getElem?_eq_some_iff.1 hp).1
  refine ⟨h.len, by rw [take_filter hp, h.head, hh]; simp, ?_, by have := h.lt; omega, by omega⟩
  rw [← List.drop_drop, h.tail, List.drop_drop]
theorem Dels.keep {hold : P → Bool} {l X : List P} {i j : Nat} (h : Dels hold l X i j) {p : P} (hp : l[j]? = some p) (hh : hold p = false) : Dels hold l (X.set i p) (i + 1) (j + 1) := by
  have hj : j < l.length := (List.getElem?_eq_some_iff.1 hp).1
  have hi := h.lt
  refine ⟨by rw [List.length_set]; exact h.len, ?_, ?_, by omega, by omega⟩
  · rw [take_filter hp, ← h.head, hh, List.take_succ_eq_append_getElem (by rw [List.length_set, h.len]; omega), List.take_set_of_le (Nat.le_refl _)]
    simp
  · rw [List.drop_set_of_lt (by omega), ← List.drop_drop, h.tail, List.drop_drop]

set_option maxHeartbeats 3200000 in
set_option maxRecDepth 100000 in
/-- slices.DeleteFunc of a row of the call's own. -/
theorem delete_any (base g cap n fn : Nat) (q : Value) (hold : P → Bool) (l : List P) (w : World) (h : Hold rvS w base 24 g cap l) (hl : l.length = n) (hn : n ≤ 100000) (hent : ∀ (args : Array Value) (w : World), (callFunc fn args).run Try.prog w = .ok (.enter fn args) w)
    (how : ∀ (p : P) (w' : World), Only (fun k => k = g) w w' → Calls Try.prog fn #[.agg #[.int .i64 p.1, .int .i64 p.2], q] w' fun e w'' => e = .returned (.bool (hold p)) ∧ Below w'.heap.size w' w'') :
    Calls Try.prog 18 #[.slice (some ⟨g, 0, none⟩) n cap, .func (.func fn) #[] #[q]] w fun e w' =>
      ∃ v, e = .returned v ∧ w'.ownsRow base 24 2 v (l.filter (fun p => !hold p)).length (rvS.flat (l.filter (fun p => !hold p))) ∧ Only (fun k => k = g) w w' := by
  have H := Lib.hid h
  have HL := Lib.hid hl
  have HH := Lib.hid how
  have hrow := h.row
  rw [hl] at hrow
  have HI := Lib.hid (index_any (some ⟨g, 0, none⟩) n cap fn q hold l w hrow hn hent (fun p w' hb => how p w' (Only.of_below hb)))
  have HCAP : Hid (n ≤ cap) := by unfold Hid; have := h.fit; omega
  clear h how hrow
  go_enter Try.func18, Try.ntmps18
  go_wp2_with fail
  refine HI.out.mono ?_
  rintro e1 w1 ⟨r, rfl, hr, hb1⟩
  have HO1 : Hid (Only (fun k => k = g) w w1) := Only.of_below hb1
  have H1 := Lib.hid (H.out.below hb1)
  clear HI hb1
  rcases hr with ⟨rfl, hf⟩ | ⟨k, p, hk, rfl, hp, hh, hf⟩
  · have HF := Lib.hid hf
    have HX := Lib.hid H1.out.own'
    rw [hl] at HX
    clear hf
    go_wp2
    go_ret
    refine ⟨_, rfl, ?_, HO1.out⟩
    rw [HF.out, HL.out]
    exact HX.out
  · have HK := Lib.hid (Dels.start (by omega) hp hh hf)
    have hkw : IntKind.i64.wrap ((k : Int) + 1) = (k : Int) + 1 := IntWalk.i64_in _ ⟨by omega, by omega⟩
    have hne : ((k : Int) == -1) = false := beq_eq_false_iff_ne.2 (by omega)
    clear hp hh hf
    go_wp2
    go_loopw [5, 6] (fun u v wr => ∃ (i j : Nat) (X : List P), u = .int .i64 (i : Int) ∧ v = .int .i64 (j : Int) ∧ i < j ∧ j ≤ n ∧ Hid (Dels hold l X i j) ∧ Hid (Hold rvS wr base 24 g cap X) ∧ Hid (Only (fun k => k = g) w wr)) (fun _ v _ => n - (intOf v).toNat)
    case atStart => exact ⟨k, k + 1, l, rfl, by go_num, by omega, by omega, HK, H1, HO1⟩
    case round =>
      obtain ⟨i, j, X, rfl, rfl, hij, hjn, HK2, HX, HO⟩ := hrel
      have HXL : Hid (X.length = n) := by unfold Hid; rw [HK2.out.len, HL.out]
      by_cases hlt : j < n
      · obtain ⟨p, hp⟩ : ∃ p, l[j]? = some p := ⟨_, List.getElem?_eq_getElem (by omega)⟩
        have HP := Lib.hid hp
        have hc := HX.out.cells (HK2.out.at hp)
        have c0 : wr.cell? ⟨g, j * 2, none⟩ = some (.int .i64 p.1) := hc 0 (by show 0 < 2; omega)
        have c1 : wr.cell? ⟨g, j * 2 + 1, none⟩ = some (.int .i64 p.2) := hc 1 (by show 1 < 2; omega)
        have h1 : (0 : Int) ≤ (j : Int) := by omega
        have h2 : (j : Int) < (n : Int) := by omega
        have h3 : (0 : Int) ≤ (i : Int) := by omega
        have h4 : (i : Int) < (n : Int) := by omega
        have hjw : IntKind.i64.wrap ((j : Int) + 1) = (j : Int) + 1 := IntWalk.i64_in _ ⟨by omega, by omega⟩
        have hiw : IntKind.i64.wrap ((i : Int) + 1) = (i : Int) + 1 := IntWalk.i64_in _ ⟨by omega, by omega⟩
        have HBA : Hid (Only (fun k => k = g) w (wr.alloc (.cells #[.int .i64 p.1, .int .i64 p.2] 24))) := HO.out.trans (Only.alloc (M := fun k => k = g) wr _) (fun _ _ h => h)
        have HXA : Hid (Hold rvS (wr.alloc (.cells #[.int .i64 p.1, .int .i64 p.2] 24)) base 24 g cap X) := HX.out.below ((Below.refl _ _).alloc (Nat.le_refl _) _)
        have HBK := Lib.hid (heap_alloc_new wr (.cells #[.int .i64 p.1, .int .i64 p.2] 24))
        have HGL : Hid (g < wr.heap.size) := HX.out.lt
        clear hp hc
        go_wp2_with fail
        obtain ⟨gb, hgb⟩ : ∃ gb, wr.heap.size = gb := ⟨_, rfl⟩
        rw [hgb] at HBK HGL ⊢
        generalize wr.alloc (.cells #[.int .i64 p.1, .int .i64 p.2] 24) = wA at HBA HXA HBK ⊢
        refine (HH.out p wA HBA.out).mono ?_
        rintro e2 w2 ⟨rfl, hb2⟩
        have HX2 := Lib.hid (HXA.out.below hb2)
        have HO2 : Hid (Only (fun k => k = g) w w2) := HBA.out.trans (Only.of_below (M := fun k => k = g) hb2) (fun _ _ h => h)
        have hk2 := (hb2.block _ (Array.getElem?_eq_some_iff.1 HBK.out).1).trans HBK.out
        have b0 := cell_of_blk (j := 0) hk2 rfl
        have b1 := cell_of_blk (j := 1) hk2 rfl
        clear hb2 hk2 HBA HXA HBK c0 c1
        cases hf : hold p with
        | true =>
          have HN := Lib.hid (HK2.out.skip HP.out hf)
          go_wp2
          go_roundw
          case rel => exact ⟨i, j + 1, X, rfl, by go_num, by omega, by omega, HN, HX2, HO2⟩
          case measure => simp [intOf]; omega
        | false =>
          have HN := Lib.hid (HK2.out.keep HP.out hf)
          have hXi : i < X.length := by rw [HXL.out]; omega
          obtain ⟨y, hy⟩ : ∃ y, X[i]? = some y := ⟨_, List.getElem?_eq_getElem hXi⟩
          have hci := HX2.out.cells hy
          have c0 : w2.cell? ⟨g, i * 2, none⟩ = some (.int .i64 y.1) := hci 0 (by show 0 < 2; omega)
          have c1 : w2.cell? ⟨g, i * 2 + 1, none⟩ = some (.int .i64 y.2) := hci 1 (by show 1 < 2; omega)
          have f0 : w2.frozen? ⟨g, i * 2, none⟩ = false := HX2.out.free _
          have f1 : w2.frozen? ⟨g, i * 2 + 1, none⟩ = false := HX2.out.free _
          have hset : Hold rvS ((w2.setCell ⟨g, i * 2, none⟩ (.int .i64 p.1)).setCell ⟨g, i * 2 + 1, none⟩ (.int .i64 p.2)) base 24 g cap (X.set i p) := HX2.out.set p hXi
          have HS := Lib.hid hset
          have hos : Only (fun k => k = g) w ((w2.setCell ⟨g, i * 2, none⟩ (.int .i64 p.1)).setCell ⟨g, i * 2 + 1, none⟩ (.int .i64 p.2)) := HO2.out.trans (only_setCells w2 g (i * 2) [.int .i64 p.1, .int .i64 p.2]) (fun _ _ h => h)
          have HOS := Lib.hid hos
          clear hci hy hset hos
          go_wp2
          go_roundw
          case rel => exact ⟨i + 1, j + 1, X.set i p, by go_num, by go_num, by omega, by omega, HN, HS, HOS⟩
          case measure => simp [intOf]; omega
      · have hjn' : j = n := by omega
        subst hjn'
        have hcl : ∀ ty, (Builtin.clear_ #[22] ty #[.slice (some ⟨g, i * 2, none⟩) (j - i) (cap - i)]).run Try.prog wr = .ok (.tuple #[]) (wr.setCells g (i * 2) (rvS.flat (List.replicate (j - i) ((0, 0) : P)))) := fun ty =>
          run_clear_rec (P := Try.prog) wr 22 24 ty rvS ((0, 0) : P) Try.underlying22 zero_rv rfl base 24 g cap i (j - i) (cap - i) X HX.out (by omega) (by have := HCAP.out; omega)
        have hput := HX.out.put (i := i) (List.replicate (j - i) ((0, 0) : P)) (by rw [HXL.out]; omega) (by rw [List.length_replicate]; have := HCAP.out; omega)
        have hown := hput.own (k := i) (by simp only [List.length_append, List.length_take, HXL.out]; omega)
        rw [List.append_assoc, List.take_append_of_le_length (by rw [List.length_take, HXL.out]; omega), List.take_take, Nat.min_self, HK2.out.head, List.take_of_length_le (l := l) (by rw [HL.out]; exact Nat.le_refl _)] at hown
        have hi : i = (l.filter (fun p => !hold p)).length := by
          have h1 := HK2.out.head
          rw [List.take_of_length_le (l := l) (by rw [HL.out]; exact Nat.le_refl _)] at h1
          rw [← h1, List.length_take, HXL.out]
          omega
        have HOW : Hid ((wr.setCells g (i * 2) (rvS.flat (List.replicate (j - i) ((0, 0) : P)))).ownsRow base 24 2 (.slice (some ⟨g, 0, none⟩) i cap) i (rvS.flat (l.filter (fun p => !hold p)))) := hown
        have HOS : Hid (Only (fun k => k = g) w (wr.setCells g (i * 2) (rvS.flat (List.replicate (j - i) ((0, 0) : P))))) := HO.out.trans (only_setCells wr g _ _) (fun _ _ h => h)
        have HI2 := Lib.hid hi
        have HCP := HCAP.out
        have g1 : (0 : Int) ≤ (i : Int) := by omega
        have g2 : (i : Int) ≤ (j : Int) := by omega
        have g3 : (i : Int) ≤ (cap : Int) := by omega
        have g4 : i < cap := by omega
        clear hput hown hi
        generalize wr.setCells g (i * 2) (rvS.flat (List.replicate (j - i) ((0, 0) : P))) = w9 at hcl HOW HOS
        go_wp2
        go_ret
        refine ⟨_, rfl, ?_, HOS.out⟩
        rw [← HI2.out]
        exact HOW.out
end Go.Proofs.Ytfmmpmpafgbidaa.Rv
