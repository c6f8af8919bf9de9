/- Layer 16 (heap), the landed code at Int: Top, Push. -/
import Derived.Test.YthhnemanaciikaaHqIU
import Derived.Lib.SmallJoins
namespace Go.Proofs.Ythhnemanaciikaa.Hq.I
open Go.RowKit Rec Ints Ge

theorem top_nil (w : World) :
    Calls Try.prog 15 #[.pointer none] w fun e w' => e = .returned (.tuple #[Value.int .i64 (0 : Int), .bool false]) ∧ Below w.heap.size w w' := by
  have HN := Lib.hid (len_nil w)
  go_enter Try.func15, Try.ntmps15
  go_wp2_with fail
  refine HN.out.mono ?_
  rintro e1 w1 ⟨rfl, hb1⟩
  have HB := Lib.hid hb1
  clear HN hb1
  go_wp2
  go_ret2
  exact ⟨rfl, HB.out⟩
theorem top_none (B : Nat) (f : FuncId) (lb : Array Value) (w : World) (b : Nat) (v : Value) (h : Base w B f lb b v []) :
    Calls Try.prog 15 #[.pointer (some ⟨b, 0, none⟩)] w fun e w' => e = .returned (.tuple #[Value.int .i64 (0 : Int), .bool false]) ∧ Below w.heap.size w w' := by
  obtain ⟨A, c, rfl, -⟩ := ownr_slice h.own
  have HN := Lib.hid (len_any w b f lb A 0 c h.blk)
  clear h
  go_enter Try.func15, Try.ntmps15
  go_wp2_with fail
  refine HN.out.mono ?_
  rintro e1 w1 ⟨rfl, hb1⟩
  have HB := Lib.hid hb1
  clear HN hb1
  go_wp2
  go_ret2
  exact ⟨rfl, HB.out⟩
theorem top_some (B : Nat) (f : FuncId) (lb : Array Value) (w : World) (b g cap n : Nat) (l : List El) (x : El) (h : Lies w B f lb b g cap n l) (hx : l[0]? = some x) :
    Calls Try.prog 15 #[.pointer (some ⟨b, 0, none⟩)] w fun e w' => e = .returned (.tuple #[Value.int .i64 x, .bool true]) ∧ Below w.heap.size w w' := by
  have hn : 0 < n := by have := (List.getElem?_eq_some_iff.1 hx).1; have := h.len; omega
  have HN := Lib.hid (len_any w b f lb (some ⟨g, 0, none⟩) n cap h.blk)
  have H := Lib.hid h
  have HX := Lib.hid hx
  clear h hx
  have a1 : ((n : Int) == 0) = false := beq_eq_false_iff_ne.2 (by omega)
  have a2 : (0 : Int) < (n : Int) := by omega
  go_enter Try.func15, Try.ntmps15
  go_wp2_with fail
  refine HN.out.mono ?_
  rintro e1 w1 ⟨rfl, hb1⟩
  have H1 := Lib.hid (H.out.below hb1)
  have HB := Lib.hid hb1
  have c1 : w1.cell? ⟨b, 1, none⟩ = some (.slice (some ⟨g, 0, none⟩) n cap) := cell_of_blk H1.out.blk rfl
  have x0 : w1.cell? ⟨g, 0, none⟩ = some (.int .i64 x) := el_at H1.out.hold HX.out
  clear HN hb1
  go_wp2
  go_ret2
  exact ⟨rfl, HB.out⟩
theorem push_nil (w : World) (x : El) : Calls Try.prog 12 #[.pointer none, Value.int .i64 x] w fun e w' => e = .returned (.tuple #[]) ∧ Below w.heap.size w w' := by
  have HM := Lib.hid (made_nil w)
  go_enter Try.func12, Try.ntmps12
  go_wp2_with fail
  refine HM.out.mono ?_
  rintro e1 w1 ⟨rfl, hb1⟩
  have HB := Lib.hid hb1
  clear HM hb1
  go_wp2
  (try simp only [Exit.inBlock, Exit.then]); refine bodyPost_ret (results_none rfl _ _ _) rfl ?_
  exact ⟨rfl, HB.out⟩
theorem push_any (lt : El → El → Bool) (B : Nat) (Inv : World → Prop) (f : FuncId) (lb : Array Value) (hL : Less lt B Inv f lb) (w : World) (b : Nat) (v : Value) (l : List El) (x : El) (hi : Inv w) (h : Base w B f lb b v l) (hn : l.length ≤ 1000) (hh : Hp.Hp lt l l.length) :
    Calls Try.prog 12 #[.pointer (some ⟨b, 0, none⟩), Value.int .i64 x] w fun e w' => e = .returned (.tuple #[]) ∧
      ∃ v' l', Base w' B f lb b v' l' ∧ l'.Perm (l ++ [x]) ∧ Hp.Hp lt l' l'.length ∧ Only (fun k => k = b ∨ v.ownBlock = some k) w w' ∧ ∀ k, v'.ownBlock = some k → v.ownBlock = some k ∨ w.heap.size ≤ k := by
  obtain ⟨i0, hi0, hz0, hz1, hz2⟩ := info_of info_int
  have HM := Lib.hid (made_any w b f lb v h.blk)
  have H := Lib.hid h
  have HL := Lib.hid hL
  have HI := Lib.hid hi
  have HU := Lib.hid (hh.push x)
  have HBS := Lib.hid h.big
  obtain ⟨A, c, rfl, -⟩ := ownr_slice h.own
  clear h hL hi hh
  go_enter Try.func12, Try.ntmps12
  go_wp2_with fail
  refine HM.out.mono ?_
  rintro e1 w1 ⟨rfl, hb1⟩
  have H1 : Hid (Base w1 B f lb b (.slice A l.length c) l) := H.out.keep fun k hk => hb1.block k (by
    rcases hk with rfl | hk
    · exact H.out.lt
    · exact (H.out.own.lt k hk).2)
  have c1 : w1.cell? ⟨b, 1, none⟩ = some (.slice A l.length c) := cell_of_blk H1.out.blk rfl
  have HB1 := Lib.hid hb1
  have HDO := Lib.hid (ownr_alloc H1.out.own (.cells #[.int .i64 x] 3))
  have HNEW := Lib.hid (new_int w1 x 3)
  have HBS1 := Lib.hid H1.out.big
  have HI1 := Lib.hid (HL.out.keep w w1 HI.out HBS.out (hb1.mono HBS.out))
  have qn : IntKind.i64.wrap (((l.length + 1 : Nat) : Int) - 1) = (l.length : Int) := by rw [IntWalk.i64_in _ ⟨by omega, by omega⟩]; omega
  clear hb1 HM
  go_wp2_with (at_builtin; go_loud (refine push_mine intS rfl (.tmp 11) (.tmp 13) 22 rfl B 3 i0 (.int .i64 0) 8 Try.underlying22 hi0 hz0 rfl hz1 hz2 _ l.length l rfl HDO.out ⟨w1.heap.size, 0, none⟩ x rfl HNEW.out (by omega) (by omega) (by have := HBS1.out; simp; omega) ?_); intro v2 w2 hown2 hgrow2 hlie2; go_loud (have hst := stored H1.out hown2 hgrow2 hlie2); go_loud (obtain ⟨g2, cp2, rfl⟩ := Joins.ownsRow_form hown2 (Nat.succ_pos _)); (obtain ⟨hk2, hb2, ho2, hw2⟩ := hst); go_loud (have c2 : w2.cell? ⟨b, 1, none⟩ = some (.slice A l.length c) := cell_of_blk hk2 rfl); go_loud (have f2 : w2.frozen? ⟨b, 1, none⟩ = false := frozen_of_row w2 b 1 _ _ hk2); (have HB2 := Lib.hid hb2); (have HO2 := Lib.hid ho2); (have HW2 := Lib.hid hw2); go_loud (clear hk2 hb2 ho2 hw2 hown2 hgrow2 hlie2))
  have HI3 := Lib.hid (HL.out.keep w1 _ HI1.out HBS1.out (HO2.out.below HBS1.out (fun k hk => by
    rcases hk with rfl | hk
    · exact H1.out.le
    · exact (H1.out.own.lt k hk).1)))
  generalize w2.setCell ⟨b, 1, none⟩ (.slice (some ⟨g2, 0, none⟩) (l.length + 1) cp2) = w3 at *
  refine (rise_any lt B Inv f lb HL.out w3 b g2 cp2 (l.length + 1) l.length (l ++ [x]) HI3.out HB2.out.lies (by omega) (by omega) HU.out).mono ?_
  rintro e4 w4 ⟨rfl, l4, hl4, hp4, hh4, ho4⟩
  have HL4 := Lib.hid hl4
  have HP4 := Lib.hid hp4
  have HH4 := Lib.hid hh4
  have HO4 := Lib.hid ho4
  clear hl4 hp4 hh4 ho4
  go_wp2
  go_end0
  refine ⟨rfl, _, l4, HL4.out.base, HP4.out, by rw [HL4.out.len]; exact HH4.out, ((Only.of_below HB1.out).trans HO2.out (fun _ _ h => h)).trans HO4.out (fun i hi he => ?_), fun k hk => ?_⟩
  · rcases HW2.out i (by rw [he]; rfl) with h1 | h1
    · exact .inr h1
    · have := HB1.out.size
      omega
  · rcases HW2.out k hk with h1 | h1
    · exact .inl h1
    · have := HB1.out.size
      exact .inr (by omega)
theorem pop_nil (w : World) : Calls Try.prog 14 #[.pointer none] w fun e w' => e = .returned (.tuple #[Value.int .i64 (0 : Int), .bool false]) ∧ Below w.heap.size w w' := by
  have HM := Lib.hid (top_nil w)
  go_enter Try.func14, Try.ntmps14
  go_wp2_with fail
  refine HM.out.mono ?_
  rintro e1 w1 ⟨rfl, hb1⟩
  have HB := Lib.hid hb1
  clear HM hb1
  go_wp2
  go_ret2
  exact ⟨rfl, HB.out⟩
theorem pop_none (B : Nat) (f : FuncId) (lb : Array Value) (w : World) (b : Nat) (v : Value) (h : Base w B f lb b v []) :
    Calls Try.prog 14 #[.pointer (some ⟨b, 0, none⟩)] w fun e w' => e = .returned (.tuple #[Value.int .i64 (0 : Int), .bool false]) ∧ Below w.heap.size w w' := by
  have HM := Lib.hid (top_none B f lb w b v h)
  clear h
  go_enter Try.func14, Try.ntmps14
  go_wp2_with fail
  refine HM.out.mono ?_
  rintro e1 w1 ⟨rfl, hb1⟩
  have HB := Lib.hid hb1
  clear HM hb1
  go_wp2
  go_ret2
  exact ⟨rfl, HB.out⟩
theorem zero_el : ∀ w, (zeroValue 3).run Try.prog w = .ok (.int .i64 0) w := fun w => by kernel_rfl
theorem pop_any (lt : El → El → Bool) (B : Nat) (Inv : World → Prop) (f : FuncId) (lb : Array Value) (hL : Less lt B Inv f lb) (w : World) (b g cap k : Nat) (l : List El) (x : El) (hi : Inv w) (h : Lies w B f lb b g cap (k + 1) l) (hk : k ≤ 1000) (hx : l[0]? = some x) (hh : Hp.Hp lt l l.length) :
    Calls Try.prog 14 #[.pointer (some ⟨b, 0, none⟩)] w fun e w' => e = .returned (.tuple #[Value.int .i64 x, .bool true]) ∧
      ∃ l', Lies w' B f lb b g cap k l' ∧ l'.Perm (Hp.cut l) ∧ Hp.Hp lt l' k ∧ Only (fun k => k = b ∨ k = g) w w' := by
  have HT := Lib.hid (top_some B f lb w b g cap (k + 1) l x h hx)
  have H := Lib.hid h
  have HL := Lib.hid hL
  have HI := Lib.hid hi
  have hcap := h.hold.fit
  rw [h.len] at hcap
  have HCAP := Lib.hid hcap.1
  have HU : Hid (Hp.Dn lt ((Hp.sw l 0 k).take k) k 0) := by
    have h1 := hh.cut
    rw [h.len, Nat.add_sub_cancel] at h1
    rw [cut_of h.len]
    exact h1
  have HBS := Lib.hid h.base.big
  have qn : IntKind.i64.wrap (((k + 1 : Nat) : Int) - 1) = (k : Int) := by rw [IntWalk.i64_in _ ⟨by omega, by omega⟩]; omega
  clear h hL hi hh hx hcap
  go_enter Try.func14, Try.ntmps14
  go_wp2_with fail
  refine HT.out.mono ?_
  rintro e1 w1 ⟨rfl, hb1⟩
  have H1 := Lib.hid (H.out.below hb1)
  have HB1 := Lib.hid hb1
  have c1 : w1.cell? ⟨b, 1, none⟩ = some (.slice (some ⟨g, 0, none⟩) (k + 1) cap) := cell_of_blk H1.out.blk rfl
  clear hb1 HT
  go_wp2_with fail
  refine (swap_any B f lb w1 b g cap (k + 1) 0 k l H1.out (by omega) (by omega)).mono ?_
  rintro e2 w2 ⟨rfl, hl2, ho2⟩
  obtain ⟨w3, hw3⟩ : ∃ w3, w3 = w2.setCells g (k * 1) (intS.flat (List.replicate 1 (0 : Int))) := ⟨_, rfl⟩
  have hcl : ∀ ty, (Builtin.clear_ #[22] ty #[.slice (some ⟨g, k, none⟩) 1 (cap - k)]).run Try.prog w2 = .ok (.tuple #[]) w3 := fun ty => by
    rw [hw3]
    exact run_clear_of (P := Try.prog) w2 22 3 ty intS (0 : Int) (.int .i64 0) Try.underlying22 zero_el rfl B 3 g cap k 1 (cap - k) (k) (Nat.mul_one k).symm _ hl2.hold (by omega) (by have := HCAP.out; omega)
  obtain ⟨hb3, hl3, ho3⟩ := popped hl2 (0 : Int) hw3
  have c2 : w2.cell? ⟨b, 1, none⟩ = some (.slice (some ⟨g, 0, none⟩) (k + 1) cap) := cell_of_blk hl2.blk rfl
  have c3 : w3.cell? ⟨b, 1, none⟩ = some (.slice (some ⟨g, 0, none⟩) (k + 1) cap) := cell_of_blk hb3 rfl
  have f3 : w3.frozen? ⟨b, 1, none⟩ = false := frozen_of_row w3 b 1 _ _ hb3
  have HL3 := Lib.hid hl3
  have HO3 : Hid (Only (fun k => k = b ∨ k = g) w1 _) := (ho2.mono (fun _ h => .inr h)).trans ho3 (fun _ _ h => h)
  have q1 : (k : Int) ≤ ((k + 1 : Nat) : Int) := by omega
  have q2 : ((k + 1 : Nat) : Int) ≤ (cap : Int) := by have := HCAP.out; omega
  have q3 : (k : Int) ≤ (cap : Int) := by omega
  have q4 : (0 : Int) ≤ (k : Int) := by omega
  clear hw3 hl2 ho2 hl3 ho3 hb3 c1
  go_wp2_with fail
  generalize w3.setCell ⟨b, 1, none⟩ (.slice (some ⟨g, 0, none⟩) k cap) = w4 at *
  have hB1 : B ≤ w1.heap.size := Nat.le_trans HBS.out HB1.out.size
  have HI4 := Lib.hid (HL.out.keep w1 w4 (HL.out.keep w w1 HI.out HBS.out (HB1.out.mono HBS.out)) hB1 (HO3.out.below hB1 (fun i hi => by
    rcases hi with rfl | rfl
    · exact H1.out.le
    · exact H1.out.hold.le)))
  refine (sink_any lt B Inv f lb HL.out w4 b g cap k _ HI4.out HL3.out (by omega) HU.out).mono ?_
  rintro e5 w5 ⟨rfl, l5, hl5, hp5, hh5, ho5⟩
  have HL5 := Lib.hid hl5
  have HP5 := Lib.hid hp5
  have HH5 := Lib.hid hh5
  have HO5 := Lib.hid ho5
  clear hl5 hp5 hh5 ho5
  go_wp2
  go_ret2
  refine ⟨rfl, l5, HL5.out, ?_, HH5.out, ((Only.of_below HB1.out).trans HO3.out (fun _ _ h => h)).trans HO5.out (fun _ _ h => .inr h)⟩
  rw [← cut_of H.out.len]
  exact HP5.out
end Go.Proofs.Ythhnemanaciikaa.Hq.I
