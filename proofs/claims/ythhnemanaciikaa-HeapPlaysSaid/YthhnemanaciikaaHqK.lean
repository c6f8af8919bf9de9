/- Layer 16 (heap), the landed code: Sorted; all that the laws ask. -/
import Derived.Test.YthhnemanaciikaaHqIW
import Derived.Test.YthhnemanaciikaaHqEW
namespace Go.Proofs.Ythhnemanaciikaa.Hq
open Go.RowKit Rec Ints Ge

def ltI (x y : Int) : Bool := decide (x < y)
theorem sorted_less (x y : Int) (w : World) : Calls Try.prog 22 #[.int .i64 x, .int .i64 y] w fun e w' => e = .returned (.bool (decide (x < y))) ∧ Below w.heap.size w w' := by
  go_enter Try.func22, Try.ntmps22
  go_wp2
  go_ret
  exact ⟨rfl, Below.refl _ _⟩
theorem less_ok (B : Nat) : I.Less (fun x y : Int => decide (x < y)) B (fun _ => True) 22 #[] where
  swo := int_swo
  keep _ _ _ _ _ := trivial
  ent _ _ := rfl
  tells x y w _ _ := sorted_less x y w
def mSl : Value → Nat
  | .slice _ n _ => n
  | _ => 0
abbrev HinS (B : Nat) (w : World) (M : Nat → Prop) (a : Addr) (L : List Int) : Prop := I.Hin (fun x y : Int => decide (x < y)) B 22 #[] w M a L
/-- Emptying the heap, under way. -/
structure Out (w : World) (l : List Int) (wr : World) (a : Addr) (v : Value) (M : Nat → Prop) (L out : List Int) : Prop where
  heap : HinS w.heap.size wr M a L
  own : wr.ownsRow w.heap.size 3 1 v out.length (intS.flat out)
  sep : ∀ k, v.ownBlock = some k → ¬ M k
  up : Up out
  perm : (out ++ L).Perm l
  low : ∀ x ∈ out, ∀ y ∈ L, x ≤ y
  bel : Below w.heap.size w wr
section
variable {w wr w1 w2 : World} {l L L' out : List Int} {a : Addr} {v v' : Value} {M M' : Nat → Prop} {x : Int}
theorem Out.below (h : Out w l wr a v M L out) (hb : Below wr.heap.size wr w1) : Out w l w1 a v M L out :=
  { h with heap := h.heap.keep fun k hk => hb.block k (h.heap.lies k hk).2, own := ownr_below h.own hb, bel := h.bel.trans (hb.mono h.bel.size) }
/-- The first was taken off. -/
theorem Out.off (h : Out w l wr a v M L out) (hp : L.Perm (x :: L')) (hx : ∀ y ∈ L', decide (y < x) = false) (ho : Only M wr w1) (hM : ∀ k, M' k → M k ∨ wr.heap.size ≤ k) :
    w1.ownsRow w.heap.size 3 1 v out.length (intS.flat out) ∧ (∀ k, v.ownBlock = some k → ¬ M' k) ∧ Up (out ++ [x]) ∧ ((out ++ [x]) ++ L').Perm l ∧ (∀ z ∈ out ++ [x], ∀ y ∈ L', z ≤ y) ∧ Below w.heap.size w w1 := by
  have hxL : x ∈ L := hp.mem_iff.2 List.mem_cons_self
  refine ⟨ownr_only h.own ho h.sep, fun k hk hm => ?_, ?_, ?_, fun z hz y hy => ?_, h.bel.trans (ho.below h.bel.size fun k hk => (h.heap.lies k hk).1)⟩
  · rcases hM k hm with h1 | h1
    · exact h.sep k hk h1
    · have := (h.own.lt k hk).2
      omega
  · exact List.pairwise_append.2 ⟨h.up, List.pairwise_singleton _ _, fun z hz y hy => by rw [List.mem_singleton.1 hy]; exact h.low z hz x hxL⟩
  · rw [List.append_assoc]
    exact (hp.symm.append_left out).trans h.perm
  · rcases List.mem_append.1 hz with h1 | h1
    · exact h.low z h1 y (hp.mem_iff.2 (List.mem_cons_of_mem _ hy))
    · rw [List.mem_singleton.1 h1]
      have := of_decide_eq_false (hx y hy)
      omega
/-- .. and appended. -/
theorem Out.next {o : Obj} (hh : HinS w.heap.size w1 M a L) (hown : w2.ownsRow w.heap.size 3 1 v' (out.length + 1) (intS.flat (out ++ [x]))) (hs : ∀ k, v.ownBlock = some k → ¬ M k) (hg : (w1.alloc o).grownBy w2 v.ownBlock) (hl : v'.ownBlock = v.ownBlock ∨ v'.ownBlock = some (w1.alloc o).heap.size)
    (hu : Up (out ++ [x])) (hp : ((out ++ [x]) ++ L).Perm l) (hlo : ∀ z ∈ out ++ [x], ∀ y ∈ L, z ≤ y) (hb : Below w.heap.size w w1) (hv : ∀ k, v.ownBlock = some k → w.heap.size ≤ k) : Out w l w2 a v' M L (out ++ [x]) := by
  refine ⟨hh.keep fun k hk => ?_, ?_, fun k hk hm => ?_, hu, hp, hlo, ?_⟩
  · have hlt := (hh.lies k hk).2
    rw [hg.block k (by rw [World.size_alloc]; omega) (fun e => hs k e.symm hk), Below.heap_alloc _ _ _ hlt]
  · have e : (out ++ [x]).length = out.length + 1 := by simp
    rw [e]
    exact hown
  · rcases hl with h1 | h1
    · exact hs k (by rw [← h1]; exact hk) hm
    · rw [h1] at hk
      injection hk with hk
      have := (hh.lies k hm).2
      rw [World.size_alloc] at hk
      omega
  · exact ((hb.alloc hb.size o).grown hg (by rw [World.size_alloc]; have := hb.size; omega) hv)
end
theorem sorted_any : SortedOk := by
  intro A n c l w h hnil hnc hcm hn
  obtain ⟨i0, hi0, hz0, hz1, hz2⟩ := info_of info_int
  have HO := I.heap_ok (fun x y : Int => decide (x < y)) w.heap.size (fun _ => True) 22 #[] (less_ok w.heap.size)
  have HK := Lib.hid HO
  have HR := Lib.hid h
  have HLN := Lib.hid h.len
  have HNEW := Lib.hid (HO.new w trivial (Nat.le_refl _))
  clear h HO hnil hcm hnc
  go_enter Try.func8, Try.ntmps8
  go_wp2_with fail
  refine HNEW.out.mono ?_
  rintro e1 w1 ⟨a, M1, rfl, hh1, hm1, hb1⟩
  have HH1 := Lib.hid hh1
  have HB1 := Lib.hid hb1
  clear hh1 hm1 hb1 HNEW
  go_wp2
  go_loopw [12, 5] (fun u _ wr => ∃ (k : Nat) (M : Nat → Prop) (L : List Int), u = .int .i64 (k : Int) ∧ k ≤ n ∧ Hid (HinS w.heap.size wr M a L) ∧ Hid (L.Perm (l.take k)) ∧ Hid (Below w.heap.size w wr)) (fun u _ _ => n - (intOf u).toNat)
  case atStart => exact ⟨0, M1, [], rfl, Nat.zero_le _, HH1, List.Perm.refl _, HB1⟩
  case round =>
    obtain ⟨k, M, L, rfl, hk, HH, HP, HB⟩ := hrel
    have hll : L.length = k := by rw [HP.out.length_eq, List.length_take, HLN.out]; omega
    have HLL := Lib.hid hll
    by_cases hlt : k < n
    · obtain ⟨bb, o, x, rfl, hbl, hp, c0⟩ := int_at (HR.out.below HB.out) hlt
      have HX := Lib.hid hp
      have h1 : (0 : Int) ≤ (k : Int) := by omega
      have h2 : (k : Int) < (n : Int) := by omega
      have qk : IntKind.i64.wrap ((k : Int) + 1) = (k : Int) + 1 := IntWalk.i64_in _ ⟨by omega, by omega⟩
      clear hp hll
      go_wp2_with fail
      refine (HK.out.push wr M a L x trivial HH.out (by rw [HLL.out]; omega)).mono ?_
      rintro e2 w2 ⟨rfl, M2, hh2, ho2, hm2⟩
      have HH2 := Lib.hid hh2
      have HB2 := Lib.hid (HB.out.trans (ho2.below HB.out.size fun k hk => (HH.out.lies k hk).1))
      have HP2 : Hid ((x :: L).Perm (l.take (k + 1))) := by
        unfold Hid
        rw [List.take_add_one, HX.out]
        exact (HP.out.cons x).trans (List.perm_append_singleton x _).symm
      clear hh2 ho2 hm2 HH HB HP
      go_wp2
      go_roundw
      case rel => exact ⟨k + 1, M2, x :: L, by go_num, by omega, HH2, HP2, HB2⟩
      case measure => simp [intOf]; omega
    · have hkn : k = n := by omega
      subst hkn
      have HPL : Hid (L.Perm l) := by
        have := HP.out
        rwa [List.take_of_length_le (by rw [HLN.out]; exact Nat.le_refl _)] at this
      have HHL := Lib.hid (HH.out)
      clear hll HP HH
      go_wp2_with (at_make; go_loud (refine wpList_make_own _ rfl _ _ 22 rfl w.heap.size 3 i0 (.int .i64 0) 1 Try.underlying22 hi0 hz0 hz1 _ _ (k : Int) k rfl rfl (by omega) (by rw [hz2]; omega) (by unfold maxLen; omega) (HB.out.size) ?_); intro w3 hown3 hg3)
      have HST : Hid (Out w l w3 a (.slice (some ⟨wr.heap.size, 0, none⟩) 0 k) M L []) := ⟨HHL.out.keep fun j hj => hg3.block j (HHL.out.lies j hj).2 (fun e => by cases e), hown3, fun j hj hm => by
        have hj' : wr.heap.size = j := by injection hj
        have := (HHL.out.lies j hm).2
        omega, List.Pairwise.nil, HPL.out, (fun x hx => by cases hx), HB.out.grown hg3 HB.out.size (fun j hj => by cases hj)⟩
      clear hown3 hg3 HHL HPL HB
      go_loopw [6, 7, 8] (fun u _ _ wr => ∃ (A : Option Addr) (c : Nat) (M : Nat → Prop) (L out : List Int), u = .slice A out.length c ∧ Hid (Out w l wr a (.slice A out.length c) M L out)) (fun u _ _ _ => k - mSl u)
      case atStart => exact ⟨_, _, M, L, [], rfl, HST⟩
      case round =>
        obtain ⟨A, c, M, L, out, rfl, HS⟩ := hrel
        have hlen : out.length + L.length = k := by
          have := HS.out.perm.length_eq
          rw [List.length_append] at this
          rw [this, HLN.out]
        have HLEN := Lib.hid hlen
        clear hlen
        go_wp2_with fail
        refine (HK.out.len wr M a L trivial HS.out.heap (by have := HLEN.out; omega)).mono ?_
        rintro e4 w4 ⟨rfl, hb4⟩
        have HS4 := Lib.hid (HS.out.below hb4)
        clear hb4 HS
        by_cases hL : L = []
        · subst hL
          have d0 : decide ((0 : Int) < (([] : List Int).length : Int)) = false := by decide
          have HF : Hid (InTo w.heap.size w (srtI l) (.slice A out.length c) w4) := by
            have h1 := HS4.out.perm
            rw [List.append_nil] at h1
            rw [← srt_one h1 HS4.out.up]
            exact InTo.of_own HS4.out.own HS4.out.bel
          go_wp2
          go_ret
          exact ⟨_, rfl, HF.out⟩
        · have hpos : 0 < L.length := List.length_pos_iff.2 hL
          have d0 : decide ((0 : Int) < (L.length : Int)) = true := decide_eq_true (by omega)
          go_wp2_with fail
          refine (HK.out.pop w4 M a L trivial HS4.out.heap hL (by have := HLEN.out; omega)).mono ?_
          rintro e5 w5 ⟨x, L', rfl, hp5, hx5, M5, hh5, ho5, hm5⟩
          obtain ⟨o1, o2, o3, o4, o5, o6⟩ := HS4.out.off hp5 hx5 ho5 hm5
          have hl5 := hp5.length_eq
          rw [List.length_cons] at hl5
          have HOW := Lib.hid (fun j hj => (HS4.out.own.lt j hj).1)
          have HDO := Lib.hid (ownr_alloc o1 (.cells #[.int .i64 x] 3))
          have HNEW := Lib.hid (new_int w5 x 3)
          have HSZ := Lib.hid o6.size
          have HNX := fun (w6 : World) (v6 : Value) hown hg hl => Lib.hid (Out.next (l := l) (w2 := w6) (v' := v6) (o := .cells #[.int .i64 x] 3) hh5 hown o2 hg hl o3 o4 o5 o6 HOW.out)
          clear hh5 o1 o2 o3 o4 o5 o6 hp5 hx5 ho5 hm5 HOW hL HS4
          go_wp2_with (at_builtin; go_loud (refine push_mine intS rfl (.tmp 31) (.tmp 33) 22 rfl w.heap.size 3 i0 (.int .i64 0) 8 Try.underlying22 hi0 hz0 rfl hz1 hz2 _ out.length out rfl HDO.out ⟨w5.heap.size, 0, none⟩ x rfl HNEW.out (by have := HLEN.out; omega) (by omega) (by have := HSZ.out; simp; omega) ?_); intro v6 w6 hown6 hg6 hl6; go_loud (have HN6 := HNX w6 v6 hown6 hg6 hl6); (obtain ⟨A6, c6, rfl, -⟩ := ownr_slice hown6); clear hown6 hg6 hl6 HNX)
          go_roundw
          case rel => exact ⟨A6, c6, M5, L', out ++ [x], by simp, by simpa using HN6⟩
          case measure => have := HLEN.out; simp [mSl]; omega
theorem ints_ok : TypeOk intF (some 15) (Value.int .i64) 0 := by
  intro lt B Inv g lb hs hk he ht
  refine ⟨_, I.heap_ok lt B Inv g lb ⟨hs, hk, he, ht⟩, fun f hf => ?_⟩
  injection hf with hf
  subst hf
  exact I.top_ok lt B Inv g lb ⟨hs, hk, he, ht⟩
theorem pairs_ok : TypeOk pairF none pl (0, 0) := by
  intro lt B Inv g lb hs hk he ht
  exact ⟨_, E.heap_ok lt B Inv g lb ⟨hs, hk, he, ht⟩, fun f hf => by cases hf⟩
theorem oks : Oks where
  sorted := sorted_any
  ints := ints_ok
  pairs := pairs_ok
  push0 p w := E.push_nil w p
  pop0 w := E.pop_nil w
  len0 w := E.len_nil w
end Go.Proofs.Ythhnemanaciikaa.Hq
