/- Layer 12 (revoke), the landed program: Prune and Add, as contracts. -/
import Derived.Test.YtfmmpmpafgbidaaRvD
import Derived.Test.YtfmmpmpafgbidaaRvE
import Derived.Test.YtfmmpmpafgbidaaRvG
import Derived.Lib.MinMax
namespace Go.Proofs.Ytfmmpmpafgbidaa.Rv
open Go.RowKit Rec

set_option maxHeartbeats 800000 in
set_option maxRecDepth 100000 in
theorem delete_nil (fn : Nat) (q : Value) (hold : P → Bool) (w : World) (hent : ∀ (args : Array Value) (w : World), (callFunc fn args).run Try.prog w = .ok (.enter fn args) w)
    (how : ∀ (p : P) (w' : World), Below w.heap.size w w' → Calls Try.prog fn #[.agg #[.int .i64 p.1, .int .i64 p.2], q] w' fun e w'' => e = .returned (.bool (hold p)) ∧ Below w'.heap.size w' w'') :
    Calls Try.prog 18 #[.slice none 0 0, .func (.func fn) #[] #[q]] w fun e w' => e = .returned (.slice none 0 0) ∧ Below w.heap.size w w' := by
  have HI := Lib.hid (index_any none 0 0 fn q hold [] w RRow.nil_ (by omega) hent how)
  clear how
  go_enter Try.func18, Try.ntmps18
  go_wp2_with fail
  refine HI.out.mono ?_
  rintro e1 w1 ⟨r, rfl, hr, hb1⟩
  have HB1 := Lib.hid hb1
  rcases hr with ⟨rfl, -⟩ | ⟨k, p, hk, -⟩
  · clear HI hb1
    go_wp2
    go_ret
    exact ⟨rfl, HB1.out⟩
  · omega

theorem prune_eq (l : List P) (nw : Int) : prune l nw = l.filter (fun p => !decide (p.2 < nw)) := by
  unfold prune
  congr 1
  funext p
  by_cases h : nw ≤ p.2
  · rw [decide_eq_true h, decide_eq_false (by omega)]; rfl
  · rw [decide_eq_false h, decide_eq_true (by omega)]; rfl

set_option maxHeartbeats 1600000 in
set_option maxRecDepth 100000 in
theorem prune_any (A : Option Addr) (n c : Nat) (l : List P) (nw : Int) (w : World) (h : RRow rvS w w.heap.size A n l) (hnil : A = none → c = 0) (hn : n ≤ 100000) :
    Calls Try.prog 10 #[.slice A n c, .int .i64 nw] w fun e w' => ∃ v, e = .returned v ∧ RvTo w.heap.size w (prune l nw) v w' := by
  rw [prune_eq]
  have H := Lib.hid h
  have HN := Lib.hid hnil
  have hmf : ∀ (fn : Fn) (first cap : Array Value) (w : World), (Instr.makeFunc fn first cap).run Try.prog w = .ok (.func fn first cap) w := fun _ _ _ _ => rfl
  have HK0 : Hid ((w.alloc (.cells #[.int .i64 nw] 3)).heap[w.heap.size]? = some (.cells #[.int .i64 nw] 3 (0, 0))) := heap_alloc_new w _
  have HB0 : Hid (Below w.heap.size w (w.alloc (.cells #[.int .i64 nw] 3))) := (Below.refl _ _).alloc (Nat.le_refl _) _
  have HSZ : Hid ((w.alloc (.cells #[.int .i64 nw] 3)).heap.size = w.heap.size + 1) := by unfold Hid; simp
  have HC := Lib.hid (clone_any A n c w.heap.size l (w.alloc (.cells #[.int .i64 nw] 3)) (H.out.below HB0.out) HN.out HB0.out.size hn)
  clear h hnil
  go_enter Try.func10, Try.ntmps10
  go_wp2_with fail
  generalize w.alloc (.cells #[.int .i64 nw] 3) = w1 at HK0 HB0 HSZ HC ⊢
  refine HC.out.mono ?_
  rintro e2 w2 ⟨v2, rfl, hown2, hb2⟩
  have HB2 : Hid (Below w.heap.size w w2) := HB0.out.trans (hb2.mono HB0.out.size)
  have HK2 : Hid (w2.heap[w.heap.size]? = some (.cells #[.int .i64 nw] 3 (0, 0))) := (hb2.block _ (by have := HSZ.out; omega)).trans HK0.out
  obtain ⟨A2, c2, rfl, -⟩ := ownr_slice hown2
  have hlt2 := (Array.getElem?_eq_some_iff.1 HK2.out).1
  have hll := H.out.len
  rcases own_hold hown2 with ⟨rfl, rfl, rfl, rfl⟩ | ⟨g, rfl, hh, hgl⟩
  · have HD := Lib.hid (delete_nil 20 (.pointer (some ⟨w.heap.size, 0, none⟩)) (fun p => decide (p.2 < nw)) w2 (fun _ _ => rfl) (fun p w' hb => cond_lt p nw _ w' ((hb.cell (p := ⟨w.heap.size, 0, none⟩) hlt2).trans (cell_of_blk HK2.out rfl)) (by have := hb.size; omega)))
    clear HC hown2 hb2
    go_wp2_with fail
    refine HD.out.mono ?_
    rintro e3 w3 ⟨rfl, hb3⟩
    have HB3 : Hid (Below w.heap.size w w3) := HB2.out.trans (hb3.mono HB2.out.size)
    clear hb3 HD
    go_wp2
    go_ret
    exact ⟨_, rfl, RvTo.of_own (World.ownsRow_nil _ _ 24 _) HB3.out⟩
  · have hg1 : w1.heap.size ≤ g := hh.le
    have HG : Hid (w.heap.size < g) := by unfold Hid; have := HSZ.out; omega
    have HD := Lib.hid (delete_any w1.heap.size g c2 n 20 (.pointer (some ⟨w.heap.size, 0, none⟩)) (fun p => decide (p.2 < nw)) l w2 hh hgl hn (fun _ _ => rfl) (fun p w' ho => cond_lt p nw _ w' (cell_of_blk (ho.at HK2.out (by have := HG.out; omega)) rfl) (by have := ho.size; omega)))
    clear HC hown2 hb2 hh
    go_wp2_with fail
    refine HD.out.mono ?_
    rintro e3 w3 ⟨v3, rfl, hown3, ho3⟩
    have HB3 : Hid (Below w.heap.size w w3) := HB2.out.trans (ho3.below HB2.out.size (fun k hk => by rw [hk]; exact Nat.le_of_lt HG.out))
    have HO3 := Lib.hid hown3
    clear hown3 ho3 HD
    go_wp2
    go_ret
    exact ⟨_, rfl, RvTo.of_own (ownr_base HO3.out (by have := HSZ.out; omega)) HB3.out⟩

theorem add_app (a b : List P) (x : P) (h : ∀ p ∈ a, p.1 < x.1) : add (a ++ b) x = a ++ add b x := by
  induction a with
  | nil => rfl
  | cons p a ih =>
    have h1 := h p (by simp)
    rw [List.cons_append, add, if_neg (by omega), if_neg (by omega), ih fun q hq => h q (by simp [hq])]
    rfl
theorem At.add_yes {l : List P} {x : P} {k : Nat} (h : At l x.1 k) (ht : there l x.1 k = true) : ∃ p, l[k]? = some p ∧ p.1 = x.1 ∧ add l x = l.set k (p.1, mx p.2 x.2) := by
  unfold there at ht
  cases hp : l[k]? with
  | none => rw [hp] at ht; simp at ht
  | some p =>
    rw [hp] at ht
    have hpx : p.1 = x.1 := by simpa using ht
    have hk : k < l.length := (List.getElem?_eq_some_iff.1 hp).1
    have hd : l.drop k = p :: l.drop (k + 1) := by
      rw [List.drop_eq_getElem_cons hk]
      congr 1
      exact (List.getElem?_eq_some_iff.1 hp).2
    refine ⟨p, rfl, hpx, ?_⟩
    have h1 := add_app (l.take k) (l.drop k) x h.split.1
    rw [List.take_append_drop, hd, add, if_pos hpx] at h1
    rw [h1, List.set_eq_take_append_cons_drop, if_pos hk]
theorem At.add_no {l : List P} {x : P} {k : Nat} (h : At l x.1 k) (ht : there l x.1 k = false) : add l x = ins l k x := by
  have h1 := add_app (l.take k) (l.drop k) x h.split.1
  rw [List.take_append_drop] at h1
  unfold ins
  rw [h1, List.append_assoc]
  congr 1
  cases hp : l[k]? with
  | none => rw [List.drop_of_length_le (List.getElem?_eq_none_iff.1 hp)]; rfl
  | some p =>
    unfold there at ht
    rw [hp] at ht
    have hpx : ¬ p.1 = x.1 := by simpa using ht
    have hk : k < l.length := (List.getElem?_eq_some_iff.1 hp).1
    have hd : l.drop k = p :: l.drop (k + 1) := by
      rw [List.drop_eq_getElem_cons hk]
      congr 1
      exact (List.getElem?_eq_some_iff.1 hp).2
    have h2 := h.split.2 p (by rw [hd]; simp)
    rw [hd, add, if_neg hpx, if_pos (by omega)]
    rfl

set_option maxHeartbeats 3200000 in
set_option maxRecDepth 100000 in
theorem add_any (A : Option Addr) (n c : Nat) (l : List P) (x : P) (w : World) (h : RRow rvS w w.heap.size A n l) (hnil : A = none → c = 0) (hn : n ≤ 100000) :
    Calls Try.prog 14 #[.slice A n c, .agg #[.int .i64 x.1, .int .i64 x.2]] w fun e w' => ∃ v, e = .returned (.tuple #[v, .int .i64 ((addT l x).2 : Int)]) ∧ RvTo w.heap.size w (addT l x).1 v w' := by
  have H := Lib.hid h
  have HN := Lib.hid hnil
  have HL := Lib.hid h.len
  have HK0 : Hid ((w.alloc (.cells #[.int .i64 x.1, .int .i64 x.2] 24)).heap[w.heap.size]? = some (.cells #[.int .i64 x.1, .int .i64 x.2] 24 (0, 0))) := heap_alloc_new w _
  have HB0 : Hid (Below w.heap.size w (w.alloc (.cells #[.int .i64 x.1, .int .i64 x.2] 24))) := (Below.refl _ _).alloc (Nat.le_refl _) _
  clear h hnil
  cases hr : decide (Rt l) with
  | false =>
    have e1 : addT l x = ([], 2) := by unfold addT; rw [if_neg (fun hh => (of_decide_eq_false hr) hh.1)]
    have E1 := Lib.hid e1
    clear e1
    go_enter Try.func14, Try.ntmps14
    go_wp2_with fail
    generalize w.alloc (.cells #[.int .i64 x.1, .int .i64 x.2] 24) = w1 at HK0 HB0 ⊢
    refine (right_any A n c l w1 ((H.out.below HB0.out).more HB0.out.size) hn).mono ?_
    rw [hr]
    rintro e2 w2 ⟨rfl, hb2⟩
    have HB2 : Hid (Below w.heap.size w w2) := HB0.out.trans (hb2.mono HB0.out.size)
    clear hb2
    go_wp2
    go_ret2
    rw [E1.out]
    exact ⟨_, rfl, RvTo.of_own (World.ownsRow_nil _ _ 24 _) HB2.out⟩
  | true =>
    have HRT := Lib.hid (of_decide_eq_true hr)
    go_enter Try.func14, Try.ntmps14
    go_wp2_with fail
    generalize w.alloc (.cells #[.int .i64 x.1, .int .i64 x.2] 24) = w1 at HK0 HB0 ⊢
    refine (right_any A n c l w1 ((H.out.below HB0.out).more HB0.out.size) hn).mono ?_
    rw [hr]
    rintro e2 w2 ⟨rfl, hb2⟩
    have HB2 : Hid (Below w.heap.size w w2) := HB0.out.trans (hb2.mono HB0.out.size)
    have HK2 : Hid (w2.heap[w.heap.size]? = some (.cells #[.int .i64 x.1, .int .i64 x.2] 24 (0, 0))) := (hb2.block _ (Array.getElem?_eq_some_iff.1 HK0.out).1).trans HK0.out
    have x0 := cell_of_blk (j := 0) HK2.out rfl
    have x1 := cell_of_blk (j := 1) HK2.out rfl
    clear hb2 hr HK0 HB0
    cases hx : decide (okp x) with
    | false =>
      have e1 : addT l x = ([], 2) := by unfold addT; rw [if_neg (fun hh => (of_decide_eq_false hx) hh.2)]
      have E1 := Lib.hid e1
      clear e1
      go_wp2_with fail
      refine (may_any x w2).mono ?_
      rw [hx]
      rintro e3 w3 ⟨rfl, hb3⟩
      have HB3 : Hid (Below w.heap.size w w3) := HB2.out.trans (hb3.mono HB2.out.size)
      clear hb3
      go_wp2
      go_ret2
      rw [E1.out]
      exact ⟨_, rfl, RvTo.of_own (World.ownsRow_nil _ _ 24 _) HB3.out⟩
    | true =>
      have HOX := Lib.hid (of_decide_eq_true hx)
      go_wp2_with fail
      refine (may_any x w2).mono ?_
      rw [hx]
      rintro e3 w3 ⟨rfl, hb3⟩
      have HB3 : Hid (Below w.heap.size w w3) := HB2.out.trans (hb3.mono HB2.out.size)
      have HK3 : Hid (w3.heap[w.heap.size]? = some (.cells #[.int .i64 x.1, .int .i64 x.2] 24 (0, 0))) := (hb3.block _ (Array.getElem?_eq_some_iff.1 HK2.out).1).trans HK2.out
      clear hb3 x0 x1 HK2 HB2
      have x0 := cell_of_blk (j := 0) HK3.out rfl
      have x1 := cell_of_blk (j := 1) HK3.out rfl
      go_wp2_with fail
      refine (place_any A n c l x.1 w3 ((H.out.below HB3.out).more HB3.out.size) hn HRT.out.asc).mono ?_
      rintro e4 w4 ⟨k, hat, rfl, hb4⟩
      have HAT := Lib.hid hat
      have HKL : Hid (k ≤ n) := by unfold Hid; have := hat.le; have := HL.out; omega
      have HB4 : Hid (Below w.heap.size w w4) := HB3.out.trans (hb4.mono HB3.out.size)
      have HK4 : Hid (w4.heap[w.heap.size]? = some (.cells #[.int .i64 x.1, .int .i64 x.2] 24 (0, 0))) := (hb4.block _ (Array.getElem?_eq_some_iff.1 HK3.out).1).trans HK3.out
      clear hb4 hat x0 x1 HK3 HB3 hx
      generalize hth : there l x.1 k = th
      have HTH := Lib.hid hth
      clear hth
      go_wp2_with fail
      refine (clone_any A n c w.heap.size l w4 (H.out.below HB4.out) HN.out HB4.out.size hn).mono ?_
      rintro e5 w5 ⟨v5, rfl, hown5, hb5⟩
      have HB5 : Hid (Below w.heap.size w w5) := HB4.out.trans (hb5.mono HB4.out.size)
      have HK5 : Hid (w5.heap[w.heap.size]? = some (.cells #[.int .i64 x.1, .int .i64 x.2] 24 (0, 0))) := (hb5.block _ (Array.getElem?_eq_some_iff.1 HK4.out).1).trans HK4.out
      have HS4 : Hid (w.heap.size < w4.heap.size) := (Array.getElem?_eq_some_iff.1 HK4.out).1
      have HS5 : Hid (w4.heap.size ≤ w5.heap.size) := hb5.size
      have x0 := cell_of_blk (j := 0) HK5.out rfl
      have x1 := cell_of_blk (j := 1) HK5.out rfl
      obtain ⟨A5, c5, rfl, hc5, -⟩ := ownr_slice hown5
      have HO5 := Lib.hid hown5
      clear hb5 hown5 HK4 HB4
      cases th with
      | true =>
        obtain ⟨p, hp, hpx, hadd⟩ := HAT.out.add_yes HTH.out
        have HLN : Hid ((add l x).length ≤ 4096) := by unfold Hid; rw [hadd, List.length_set]; exact HRT.out.len
        have e1 : addT l x = (l.set k (p.1, mx p.2 x.2), 0) := by unfold addT; rw [if_pos ⟨HRT.out, HOX.out⟩, if_pos HLN.out, hadd]
        have E1 := Lib.hid e1
        have hkn : k < n := by have := (List.getElem?_eq_some_iff.1 hp).1; have := HL.out; omega
        rcases own_hold HO5.out with ⟨_, _, _, h3⟩ | ⟨g, rfl, hh, -⟩
        · omega
        have hci := hh.cells hp
        have c1 : w5.cell? ⟨g, k * 2 + 1, none⟩ = some (.int .i64 p.2) := hci 1 (by show 1 < 2; omega)
        have f1 : w5.frozen? ⟨g, k * 2 + 1, none⟩ = false := hh.free _
        have h1 : (0 : Int) ≤ (k : Int) := by omega
        have h2 : (k : Int) < (n : Int) := by omega
        have hset : Hold rvS (w5.setCell ⟨g, k * 2 + 1, none⟩ (.int .i64 (mx p.2 x.2))) w4.heap.size 24 g c5 (l.set k (p.1, mx p.2 x.2)) := hh.field (i := 1) hp (by show 1 < 2; omega) rfl
        have HS := Lib.hid hset
        have HHG : Hid (w4.heap.size ≤ g) := hh.le
        have HBS : Hid (∀ u, Below w.heap.size w (w5.setCell ⟨g, k * 2 + 1, none⟩ u)) := fun u => HB5.out.trans ((Only.setCell w5 ⟨g, k * 2 + 1, none⟩ u).below HB5.out.size (fun j hj => by have h3 : j = g := hj; have := HS4.out; have h4 : w4.heap.size ≤ g := hh.le; omega))
        clear hci hh hset hp hpx hadd e1
        have em : mx p.2 x.2 = max p.2 x.2 := by unfold mx; rw [Int.max_def]; split <;> split <;> omega
        rw [em] at HS E1
        clear em
        go_wp2_with fail
        go_region
        all_goals
          go_wp2
          go_ret2
          rw [E1.out]
          have h9 := (HS.out.own' (S := rvS))
          rw [List.length_set, HL.out] at h9
          have h8 := HBS.out (.int .i64 (max p.2 x.2))
          have hv : (w5.setCell ⟨g, k * 2 + 1, none⟩ (.int .i64 (max p.2 x.2))).drew.ownsRow w.heap.size 24 2 (.slice (some ⟨g, 0, none⟩) n c5) n (rvS.flat (l.set k (p.1, max p.2 x.2))) := ownr_base h9 (Nat.le_of_lt HS4.out)
          exact ⟨_, rfl, RvTo.of_own hv ⟨h8.os, h8.tape, h8.output, h8.size, h8.block⟩⟩
      | false =>
        have hadd := HAT.out.add_no HTH.out
        by_cases hfull : n = 4096
        · have e1 : addT l x = ([], 3) := by unfold addT; rw [if_pos ⟨HRT.out, HOX.out⟩, if_neg (by rw [hadd, ins_len, HL.out]; omega)]
          have E1 := Lib.hid e1
          have h1 : ((n : Int) == 4096) = true := by rw [hfull]; rfl
          clear e1 hadd x0 x1
          go_wp2
          go_ret2
          rw [E1.out]
          exact ⟨_, rfl, RvTo.of_own (World.ownsRow_nil _ _ 24 _) HB5.out⟩
        · have e1 : addT l x = (ins l k x, 0) := by unfold addT; rw [if_pos ⟨HRT.out, HOX.out⟩, if_pos (by rw [hadd, ins_len]; have := HRT.out.len; have := HL.out; omega), hadd]
          have E1 := Lib.hid e1
          have h1 : ((n : Int) == 4096) = false := beq_eq_false_iff_ne.2 (by omega)
          have HOA := Lib.hid (ownr_alloc HO5.out (.cells #[.int .i64 x.1, .int .i64 x.2] 24))
          have HKA : Hid ((w5.alloc (.cells #[.int .i64 x.1, .int .i64 x.2] 24)).heap[w5.heap.size]? = some (.cells #[.int .i64 x.1, .int .i64 x.2] 24 (0, 0))) := heap_alloc_new w5 _
          have HBA : Hid (Below w.heap.size w (w5.alloc (.cells #[.int .i64 x.1, .int .i64 x.2] 24))) := HB5.out.alloc HB5.out.size _
          have HLA : Hid (w4.heap.size ≤ (w5.alloc (.cells #[.int .i64 x.1, .int .i64 x.2] 24)).heap.size) := by unfold Hid; rw [World.size_alloc]; have := HS5.out; omega
          have HVK : Hid (∀ j, (Value.slice A5 n c5).ownBlock = some j → w5.heap.size ≠ j) := fun j hj => by have := (HO5.out.lt j hj).2; omega
          clear e1 hadd
          go_wp2_with fail
          refine (insert_any w4.heap.size A5 n c5 k w5.heap.size l x _ HOA.out HL.out hn HKL.out HLA.out HKA.out HVK.out).mono ?_
          rintro e6 w6 ⟨v6, rfl, hown6, hb6⟩
          have HO6 := Lib.hid hown6
          have HB6 : Hid (Below w.heap.size w w6) := HBA.out.trans (hb6.mono (Nat.le_of_lt HS4.out))
          clear hown6 hb6
          go_wp2
          go_ret2
          rw [E1.out]
          have hv : w6.ownsRow w.heap.size 24 2 v6 (n + 1) (rvS.flat (ins l k x)) := ownr_base HO6.out (Nat.le_of_lt HS4.out)
          exact ⟨_, rfl, RvTo.of_own hv HB6.out⟩
end Go.Proofs.Ytfmmpmpafgbidaa.Rv
