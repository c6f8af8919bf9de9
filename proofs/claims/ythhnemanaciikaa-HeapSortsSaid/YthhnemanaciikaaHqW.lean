/- Layer 16 (heap): HeapOrders' walk. -/
import Derived.Test.YthhnemanaciikaaHqN
import Derived.Deep.DeepCutAuto
namespace Go.Proofs.Ythhnemanaciikaa.Hq
open Go.RowKit Rec Ints Ge

theorem info_bool : (Try.prog.info? 4).map (fun i => (i.zero, i.size, i.bytes)) = some (some (.bool false), 1, 1) := by kernel_rfl
theorem made_bools (m : Nat) : (madeCells (Value.bool false).cells (m * 1)).toList = (List.replicate m false).map Value.bool := by
  apply List.ext_getElem
  · simp [madeCells]
  · intro i h1 h2
    simp [madeCells, Value.cells, Nat.mod_one]
/-- The block of a slice of one's own that has no room behind it. -/
theorem own_block {w : World} {base n g : Nat} {e : TypeId} {xs : List Value} (h : w.ownsRow base e 1 (.slice (some ⟨g, 0, none⟩) n n) n xs) : w.heap[g]? = some (.cells xs.toArray e (0, 0)) := by
  rcases h.2 with ⟨h1, _⟩ | ⟨g', cap, cur, h1, _, h3, _, _, h6, h7⟩
  · cases h1
  · cases h1
    rw [h3]
    have : cur.toList = xs := by rw [← h7, List.take_of_length_le (by rw [Array.length_toList]; omega)]
    rw [← this]
theorem bools_set (m : List Bool) (k : Nat) : (m.map Value.bool).toArray.setIfInBounds k (.bool true) = ((m.set k true).map Value.bool).toArray := by simp [List.map_set]
theorem bools_at {m : List Bool} {k : Nat} {b : Bool} (h : m[k]? = some b) : (m.map Value.bool).toArray[k]? = some (.bool b) := by simp [h]

/-- What the law keeps while it takes one after the other off: i are off, the last one is z. -/
structure Qs (Hp : World → (Nat → Prop) → Addr → List C → Prop) (B gm gl n : Nat) (l : List C) (t : Bool) (w1 wr : World) (a : Addr) (i : Nat) (z : C) (m : List Bool) : Prop where
  heap : ∃ M L, Hp wr M a L ∧ L.Perm (unm l m) ∧ L.length + i = n ∧ ¬ M gm ∧ ¬ M gl ∧ ∀ y ∈ L, 0 < i → ltP t y z = false
  met : wr.heap[gm]? = some (.cells (m.map Value.bool).toArray 4)
  last : wr.heap[gl]? = some (.cells #[.int .i64 z.1, .int .i64 z.2] 39)
  len : m.length = n
  below : Below B w1 wr
  big : B ≤ wr.heap.size
  far : B ≤ gm ∧ B ≤ gl ∧ gm ≠ gl
/-- .. and while it looks for the one that came off. -/
structure Qi (Hp : World → (Nat → Prop) → Addr → List C → Prop) (B gm gl gx n : Nat) (l : List C) (w1 wr : World) (a : Addr) (z x : C) (m0 : List Bool) (M : Nat → Prop) (L : List C) (k : Nat) (f : Bool) (m : List Bool) : Prop where
  heap : Hp wr M a L
  met : wr.heap[gm]? = some (.cells (m.map Value.bool).toArray 4)
  last : wr.heap[gl]? = some (.cells #[.int .i64 z.1, .int .i64 z.2] 39)
  one : wr.heap[gx]? = some (.cells #[.int .i64 x.1, .int .i64 x.2] 39)
  len : m.length = n
  below : Below B w1 wr
  big : B ≤ wr.heap.size
  fnd : Fnd l m0 x k f m
section
variable {Hp : World → (Nat → Prop) → Addr → List C → Prop} {B gm gl gx n i k : Nat} {l : List C} {t f : Bool} {w1 wr w2 : World} {a : Addr} {z x : C} {m m0 : List Bool} {M : Nat → Prop} {L : List C} {F : Nat → FuncId} {lt : C → C → Bool} {Inv : World → Prop} {less : Value}
theorem blk_lt {w : World} {g : Nat} {o : Obj} (h : w.heap[g]? = some o) : g < w.heap.size := (Array.getElem?_eq_some_iff.1 h).1
theorem Qi.keep (K : HeapOk F pl (0, 0) lt B Inv less Hp) (h : Qi Hp B gm gl gx n l w1 wr a z x m0 M L k f m) (hb : Below wr.heap.size wr w2) : Qi Hp B gm gl gx n l w1 w2 a z x m0 M L k f m :=
  ⟨K.keep h.heap hb.size fun j hj => hb.block j (K.lies h.heap j hj).2, (hb.block _ (blk_lt h.met)).trans h.met, (hb.block _ (blk_lt h.last)).trans h.last, (hb.block _ (blk_lt h.one)).trans h.one, h.len, h.below.trans (hb.mono h.big), Nat.le_trans h.big hb.size, h.fnd⟩
/-- A cell of one's own block was written. -/
theorem heap_set (K : HeapOk F pl (0, 0) lt B Inv less Hp) {w : World} (h : Hp w M a L) {g o : Nat} {u : Value} (hg : ¬ M g) : Hp (w.setCell ⟨g, o, none⟩ u) M a L := by
  have ho := Only.setCell w ⟨g, o, none⟩ u
  exact K.keep h ho.size fun j hj => ho.block j (K.lies h j hj).2 (fun e => hg (by have e' : j = g := e; rw [← e']; exact hj))
theorem Qi.mark (K : HeapOk F pl (0, 0) lt B Inv less Hp) (h : Qi Hp B gm gl gx n l w1 wr a z x m0 M L k false m) (hM : ¬ M gm) (hg : B ≤ gm) (h1 : gl ≠ gm) (h2 : gx ≠ gm) (hx : l[k]? = some x) (hm : m0[k]? = some false) :
    Qi Hp B gm gl gx n l w1 (wr.setCell ⟨gm, k, none⟩ (.bool true)) a z x m0 M L (k + 1) true (m.set k true) := by
  have ho := Only.setCell wr ⟨gm, k, none⟩ (.bool true)
  refine ⟨heap_set K h.heap hM, ?_, (ho.block gl (blk_lt h.last) h1).trans h.last, (ho.block gx (blk_lt h.one) h2).trans h.one, by rw [List.length_set]; exact h.len, h.below.trans (ho.below h.big fun j hj => by have e' : j = gm := hj; omega), Nat.le_trans h.big ho.size, fnd_yes h.fnd hx hm⟩
  rw [← bools_set]
  exact set_blk h.met
end

set_option maxHeartbeats 4000000 in
set_option maxRecDepth 100000 in
theorem orders_walk (K : Oks) (A : Option Addr) (n c : Nat) (l : List C) (t : Bool) (w : World) (h : RRow twoS w w.heap.size A n l) :
    Calls Try.prog 5 #[.slice A n c, .bool t] w fun e w' => e = .returned (.bool true) ∧ Below w.heap.size w w' := by
  have hb0 := (Below.refl w.heap.size w).alloc (Nat.le_refl _) (.cells #[.bool t] 4)
  have H0 := Lib.hid (h.below hb0)
  have HT0 := Lib.hid (heap_alloc_new w (.cells #[.bool t] 4))
  have HB0 := Lib.hid hb0
  have hln : l.length = n := h.1
  have HL := Lib.hid hln
  clear h hb0 hln
  obtain ⟨ib, hib, hbz0, hbz1, hbz2⟩ := info_parts info_bool
  by_cases hn : 300 < n
  · have d1 : decide ((300 : Int) < (n : Int)) = true := decide_eq_true (by omega)
    go_enter Try.func5, Try.ntmps5
    go_wp2_with fail
    generalize w.alloc (.cells #[.bool t] 4) = w0 at *
    refine (awake_any K.sorted w0).mono ?_
    rintro e1 w1 ⟨rfl, hb1⟩
    have HB1 := Lib.hid (HB0.out.trans (hb1.mono HB0.out.size))
    clear hb1
    go_wp2
    go_ret
    exact ⟨rfl, HB1.out⟩
  · have d1 : decide ((300 : Int) < (n : Int)) = false := decide_eq_false (by omega)
    go_enter Try.func5, Try.ntmps5
    go_wp2_with fail
    obtain ⟨gt, hgt⟩ : ∃ gt, w.heap.size = gt := ⟨_, rfl⟩
    rw [hgt] at H0 HT0 HB0
    have HGT := Lib.hid hgt
    generalize w.alloc (.cells #[.bool t] 4) = w0 at *
    refine (awake_any K.sorted w0).mono ?_
    rintro e1 w1 ⟨rfl, hb1⟩
    have HT1 := Lib.hid ((hb1.block gt (blk_lt HT0.out)).trans HT0.out)
    have hgt0 := blk_lt HT0.out
    have H1 := Lib.hid (H0.out.below (hb1.mono (by omega)))
    have HB1 := Lib.hid (HB0.out.trans (hb1.mono (by omega)))
    clear hb1 H0 HT0 HB0 hgt0
    go_wp2_with fail
    have hpu : Calls Try.prog 17 #[.pointer none, .agg #[.int .i64 0, .int .i64 0]] w1 _ := K.push0 (0, 0) w1
    refine hpu.mono ?_
    rintro e2 w2 ⟨rfl, hb2⟩
    have HT2 := Lib.hid ((hb2.block gt (blk_lt HT1.out)).trans HT1.out)
    have hgt1 := blk_lt HT1.out
    have H2 := Lib.hid (H1.out.below (hb2.mono (by omega)))
    have HB2 := Lib.hid (HB1.out.trans (hb2.mono (by omega)))
    clear hpu hb2 H1 HT1 HB1 hgt1
    go_wp2_with fail
    have hpo : Calls Try.prog 18 #[.pointer none] w2 fun e w' => e = .returned (.tuple #[.agg #[.int .i64 0, .int .i64 0], .bool false]) ∧ Below w2.heap.size w2 w' := K.pop0 w2
    refine hpo.mono ?_
    rintro e3 w3 ⟨rfl, hb3⟩
    have hgt2 := blk_lt HT2.out
    have hb3' := hb3.alloc hb3.size (.cells #[.int .i64 0, .int .i64 0] 39)
    have HT3 := Lib.hid ((hb3'.block gt hgt2).trans HT2.out)
    have H3 := Lib.hid (H2.out.below (hb3'.mono (by omega)))
    have HB3 := Lib.hid (HB2.out.trans (hb3'.mono (by omega)))
    clear hpo hb3 hb3' H2 HT2 HB2 hgt2
    go_wp2_with fail
    generalize w3.alloc (.cells #[.int .i64 0, .int .i64 0] 39) = w4 at *
    refine (K.len0 w4).mono ?_
    rintro e5 w5 ⟨rfl, hb5⟩
    have hgt3 := blk_lt HT3.out
    have HT5 := Lib.hid ((hb5.block gt hgt3).trans HT3.out)
    have H5 := Lib.hid (H3.out.below (hb5.mono (by omega)))
    have HB5 := Lib.hid (HB3.out.trans (hb5.mono (by omega)))
    clear hb5 H3 HT3 HB3 hgt3
    go_wp2_with fail
    have eg : ∀ args w, (callFunc 21 args).run Try.prog w = .ok (.enter 21 args) w := fun _ _ => rfl
    obtain ⟨B, hB⟩ : ∃ B, w5.heap.size = B := ⟨_, rfl⟩
    have hgB : gt < B := by rw [← hB]; exact blk_lt HT5.out
    obtain ⟨Hp, k, -⟩ := K.pairs (ltP t) B (fun x => x.cell? ⟨gt, 0, none⟩ = some (.bool t)) 21 #[.pointer (some ⟨gt, 0, none⟩)] (pair_swo t)
      (fun x x' h1 h2 h3 => (h3.cell hgB).trans h1) eg (fun x y x' h1 h2 => orders_less t gt x y x' h1 (by omega))
    have KK := Lib.hid k
    have hiv : w5.cell? ⟨gt, 0, none⟩ = some (.bool t) := cell_of_blk HT5.out rfl
    have hnew : Calls Try.prog 20 #[.func (.func 21) #[] #[.pointer (some ⟨gt, 0, none⟩)]] w5 _ := k.new w5 hiv (by omega)
    refine hnew.mono ?_
    rintro e6 w6 ⟨a, M, rfl, hm, -, hb6⟩
    have hINV : ∀ x : World, Below B w5 x → x.cell? ⟨gt, 0, none⟩ = some (.bool t) := fun x h => (h.cell hgB).trans hiv
    have HINV := Lib.hid hINV
    rw [hB] at hb6
    have HB6 : Hid (Below B w5 w6 ∧ B ≤ w6.heap.size) := ⟨hb6, by rw [← hB]; exact hb6.size⟩
    have HH6 : Hid (∃ M, Hp w6 M a (l.take 0)) := ⟨M, by rw [List.take_zero]; exact hm⟩
    have HWB : Hid (gt ≤ B) := by unfold Hid; omega
    have HH5 : Hid (RRow twoS w5 B A n l) := H5.out.more (by omega)
    clear hm hb6 hnew hiv k eg H5 hINV M
    go_wp2
    go_loopw [42] (fun i wr => ∃ j : Nat, j ≤ n ∧ i = .int .i64 (j : Int) ∧ Hid (∃ M L, Hp wr M a L ∧ L.Perm (l.take j)) ∧ Hid (Below B w5 wr ∧ B ≤ wr.heap.size))
      (fun i _ => n - (intOf i).toNat)
    case atStart => exact ⟨0, Nat.zero_le _, rfl, by obtain ⟨M, h⟩ := HH6.out; exact ⟨M, _, h, List.Perm.refl _⟩, HB6⟩
    case round =>
      clear HH6 HB6
      obtain ⟨j, hj, rfl, HH, HBB⟩ := hrel
      by_cases hjn : j < n
      · have e1 : decide ((j : Int) < (n : Int)) = true := decide_eq_true (by omega)
        obtain ⟨b1, o1, p, rfl, hb1, hp, hp0, hp1⟩ := two_at (HH5.out.below HBB.out.1) hjn
        have hwk : IntKind.i64.wrap ((j : Int) + 1) = (j : Int) + 1 := IntWalk.i64_in _ ⟨by omega, by omega⟩
        have HTK : Hid (l.take (j + 1) = l.take j ++ [p]) := by unfold Hid; rw [List.take_add_one, hp]; rfl
        obtain ⟨M, L, hm, hl⟩ := HH.out
        have hba := (Below.refl wr.heap.size wr).alloc (Nat.le_refl _) (.cells #[.int .i64 p.1, .int .i64 p.2] 39)
        have HM := Lib.hid (KK.out.keep hm hba.size fun q hq => hba.block q (KK.out.lies hm q hq).2)
        have HPL := Lib.hid hl
        have hLl : L.length ≤ 1000 := by rw [hl.length_eq, List.length_take]; omega
        have HBA : Hid (Below B w5 _ ∧ B ≤ _) := ⟨HBB.out.1.trans (hba.mono HBB.out.2), Nat.le_trans HBB.out.2 hba.size⟩
        have HPP : Hid (∀ (x : World), Hp x M a L → Below B w5 x → Calls Try.prog 17 #[.pointer (some a), .agg #[.int .i64 p.1, .int .i64 p.2]] x fun e w' => e = .returned (.tuple #[]) ∧ ∃ M', Hp w' M' a (p :: L) ∧ Only M x w' ∧ ∀ k, M' k → M k ∨ x.heap.size ≤ k) := fun x h1 h2 => KK.out.push x M a L p (HINV.out x h2) h1 hLl
        obtain ⟨p1, p2⟩ := p
        simp only at hp0 hp1 HM HBA HPP
        clear hm hl hba HH HBB hp
        go_wp2_with fail
        generalize wr.alloc (.cells #[.int .i64 p1, .int .i64 p2] 39) = w7 at *
        refine (HPP.out w7 HM.out HBA.out.1).mono ?_
        rintro e8 w8 ⟨rfl, M8, hm8, ho8, -⟩
        have HM8 : Hid (∃ M L, Hp w8 M a L ∧ L.Perm (l.take (j + 1))) := ⟨M8, _, hm8, by rw [HTK.out]; exact (HPL.out.cons (p1, p2)).trans (List.perm_append_singleton (p1, p2) (l.take j)).symm⟩
        have HB8 : Hid (Below B w5 w8 ∧ B ≤ w8.heap.size) := ⟨HBA.out.1.trans (ho8.below HBA.out.2 fun q hq => (KK.out.lies HM.out q hq).1), Nat.le_trans HBA.out.2 ho8.size⟩
        clear hm8 ho8 HBA HPP HM
        go_wp2
        go_roundw
        case rel => exact ⟨j + 1, by omega, by go_num, HM8, HB8⟩
        case measure => simp [intOf]; omega
      · obtain rfl : j = n := by omega
        have e1 : decide ((j : Int) < (j : Int)) = false := decide_eq_false (by omega)
        rw [List.take_of_length_le (Nat.le_of_eq HL.out)] at HH
        obtain ⟨M, L, hm, hl⟩ := HH.out
        go_wp2_with (at_make; go_loud (refine wpList_make_full _ rfl _ _ 44 rfl wr.heap.size 4 ib (.bool false) 1 Try.underlying44 hib hbz0 hbz1 _ _ _ _ j rfl rfl rfl rfl (by rw [hbz2]; omega) (by unfold maxLen; omega) (Nat.le_refl _) ?_); intro w2 hown2 hg2; rw [made_bools] at hown2; have HO2 := Lib.hid (own_block hown2); have HG2 := Lib.hid ((Below.refl _ _).grown hg2 (Nat.le_refl _) (fun j hj => by cases hj)); clear hown2 hg2)
        have hbz := HG2.out.alloc HG2.out.size (.cells #[.int .i64 0, .int .i64 0] 39)
        have hsz2 : w2.heap.size < (w2.alloc (.cells #[.int .i64 0, .int .i64 0] 39)).heap.size := by simp
        have hgm2 := blk_lt HO2.out
        have hlies := KK.out.lies hm
        have HQ : Hid (Qs Hp B wr.heap.size w2.heap.size j l t w5 (w2.alloc (.cells #[.int .i64 0, .int .i64 0] 39)) a 0 (0, 0) (List.replicate j false)) := by
          have hk2 := (Below.refl w2.heap.size w2).alloc (Nat.le_refl _) (.cells #[.int .i64 0, .int .i64 0] 39)
          refine ⟨⟨M, L, KK.out.keep hm (Nat.le_of_lt (Nat.lt_of_lt_of_le hgm2 hk2.size)) fun q hq => hbz.block q (hlies q hq).2, ?_, ?_, fun hq => by have := (hlies _ hq).2; omega, fun hq => by have := (hlies _ hq).2; omega, fun y _ h0 => absurd h0 (by omega)⟩, (hk2.block _ hgm2).trans HO2.out, heap_alloc_new w2 _, by simp, HBB.out.1.trans (hbz.mono HBB.out.2), by have := HBB.out.2; omega, ?_⟩
          · have h1 := unm_none l
            rw [HL.out] at h1
            rw [h1]
            exact hl
          · have := hl.length_eq
            have := HL.out
            omega
          · have := HBB.out.2
            exact ⟨by omega, by omega, by omega⟩
        have HGT2 : Hid (gt < w2.heap.size) := by have := HBB.out.2; have := HWB.out; unfold Hid; omega
        generalize wr.heap.size = gm at *
        clear hbz hsz2 hgm2 hlies hm hl HO2 HG2 HH HBB M L
        go_upto_region 18 with fail
        generalize w2.alloc (.cells #[.int .i64 0, .int .i64 0] 39) = w9 at *
        generalize w2.heap.size = gl at *
        go_wp2
        go_loopw [56] (fun i wr => ∃ (i0 : Nat) (z : C) (m : List Bool), i0 ≤ j ∧ i = .int .i64 (i0 : Int) ∧ Hid (Qs Hp B gm gl j l t w5 wr a i0 z m))
          (fun i _ => j - (intOf i).toNat)
        case atStart => exact ⟨0, _, _, Nat.zero_le _, rfl, HQ⟩
        case round =>
          clear HQ
          obtain ⟨i0, z, m, hi0, rfl, HQ⟩ := hrel
          obtain ⟨M, L, hm, hl, hLi, hMm, hMl, hord⟩ := HQ.out.heap
          have hiv : Hid (wr.cell? ⟨gt, 0, none⟩ = some (.bool t)) := HINV.out wr HQ.out.below
          by_cases hij : i0 < j
          · have e2 : decide ((i0 : Int) < (j : Int)) = true := decide_eq_true (by omega)
            have hpo : Calls Try.prog 18 #[.pointer (some a)] wr _ := KK.out.pop wr M a L hiv.out hm (fun e => by rw [e] at hLi; simp at hLi; omega) (by omega)
            go_wp2_with fail
            refine hpo.mono ?_
            rintro e7 w7 ⟨⟨x1, x2⟩, L7, rfl, hp7, hmin7, M7, hm7, ho7, hn7⟩
            have epl : pl (x1, x2) = .agg #[.int .i64 x1, .int .i64 x2] := rfl
            rw [epl]
            clear epl hpo
            obtain ⟨z1, z2⟩ := z
            have hmt7 := (ho7.block gm (blk_lt HQ.out.met) hMm).trans HQ.out.met
            have hla7 := (ho7.block gl (blk_lt HQ.out.last) hMl).trans HQ.out.last
            have hbw7 := HQ.out.below.trans (ho7.below HQ.out.big fun q hq => (KK.out.lies hm q hq).1)
            have hbg7 := Nat.le_trans HQ.out.big ho7.size
            have HLL : Hid (L7.length + (i0 + 1) = j) := by have h1 := hp7.length_eq; rw [List.length_cons] at h1; unfold Hid; omega
            have HPM : Hid (((x1, x2) :: L7).Perm (unm l m)) := hp7.symm.trans hl
            have HMN := Lib.hid hmin7
            have HNM : Hid (¬ M7 gm ∧ ¬ M7 gl) := ⟨fun hq => (hn7 gm hq).elim hMm fun h1 => by have := blk_lt HQ.out.met; omega, fun hq => (hn7 gl hq).elim hMl fun h1 => by have := blk_lt HQ.out.last; omega⟩
            have hk8 := (Below.refl w7.heap.size w7).alloc (Nat.le_refl _) (.cells #[.int .i64 x1, .int .i64 x2] 39)
            have HQI : Hid (Qi Hp B gm gl w7.heap.size j l w5 (w7.alloc (.cells #[.int .i64 x1, .int .i64 x2] 39)) a (z1, z2) (x1, x2) m M7 L7 0 false m) :=
              ⟨KK.out.keep hm7 hk8.size fun q hq => hk8.block q (KK.out.lies hm7 q hq).2, (hk8.block _ (blk_lt hmt7)).trans hmt7, (hk8.block _ (blk_lt hla7)).trans hla7, heap_alloc_new w7 _, HQ.out.len, hbw7.trans (hk8.mono hbg7), Nat.le_trans hbg7 hk8.size, fnd_start _ _ _⟩
            have HXG : Hid (gl ≠ gm ∧ w7.heap.size ≠ gm ∧ w7.heap.size ≠ gl) := ⟨fun e => HQ.out.far.2.2 e.symm, fun e => by have := blk_lt hmt7; omega, fun e => by have := blk_lt hla7; omega⟩
            have HORD : Hid (0 < i0 → ltP t (x1, x2) (z1, z2) = false) := fun h0 => hord _ (hp7.mem_iff.2 List.mem_cons_self) h0
            have HFAR := Lib.hid HQ.out.far
            clear hp7 hmin7 hm7 ho7 hn7 hmt7 hla7 hbw7 hbg7 hk8 hm hl hLi hMm hMl hord HQ hiv
            go_upto_region 22 with fail
            generalize w7.alloc (.cells #[.int .i64 x1, .int .i64 x2] 39) = w8 at *
            generalize w7.heap.size = gx at *
            have c1 : w8.cell? ⟨gx, 0, none⟩ = some (.int .i64 x1) := cell_of_blk HQI.out.one rfl
            have c2 : w8.cell? ⟨gl, 0, none⟩ = some (.int .i64 z1) := cell_of_blk HQI.out.last rfl
            have c3 : w8.cell? ⟨gt, 0, none⟩ = some (.bool t) := HINV.out w8 HQI.out.below
            have hwk : IntKind.i64.wrap ((i0 : Int) + 1) = (i0 : Int) + 1 := IntWalk.i64_in _ ⟨by omega, by omega⟩
            by_cases hi0' : 0 < i0
            · have d3 : decide ((0 : Int) < (i0 : Int)) = true := decide_eq_true (by omega)
              by_cases hxz : x1 = z1
              · have d4 : (x1 == z1) = true := beq_iff_eq.2 hxz
                go_wp2
                clear c1 c2 c3
                try clear d4
                try clear hxz
                go_loopw [16, 88] (fun f i wr => ∃ (k0 : Nat) (fb : Bool) (m' : List Bool), k0 ≤ j ∧ i = .int .i64 (k0 : Int) ∧ f = .bool fb ∧ Hid (Qi Hp B gm gl gx j l w5 wr a (z1, z2) (x1, x2) m M7 L7 k0 fb m'))
                  (fun _ i _ => j - (intOf i).toNat)
                case atStart => exact ⟨0, false, m, Nat.zero_le _, rfl, rfl, HQI⟩
                case round =>
                  clear HQI
                  obtain ⟨k0, fb, m', hk0, rfl, rfl, HQI⟩ := hrel
                  by_cases hkj : k0 < j
                  · have e3 : decide ((k0 : Int) < (j : Int)) = true := decide_eq_true (by omega)
                    obtain ⟨b1, o1, q, rfl, hb1, hq, hq0, hq1⟩ := two_at (HH5.out.below HQI.out.below) hkj
                    have hwk2 : IntKind.i64.wrap ((k0 : Int) + 1) = (k0 : Int) + 1 := IntWalk.i64_in _ ⟨by omega, by omega⟩
                    have hba := (Below.refl wr.heap.size wr).alloc (Nat.le_refl _) (.cells #[.int .i64 q.1, .int .i64 q.2] 39)
                    have HQA := Lib.hid (HQI.out.keep KK.out hba)
                    have HNA := Lib.hid (heap_alloc_new wr (.cells #[.int .i64 q.1, .int .i64 q.2] 39))
                    have HLQ := Lib.hid hq
                    obtain ⟨q1, q2⟩ := q
                    simp only at hq0 hq1 HQA HNA
                    clear hba HQI hq
                    go_upto_region 28 with fail
                    generalize wr.alloc (.cells #[.int .i64 q1, .int .i64 q2] 39) = w10 at *
                    generalize wr.heap.size = gq at *
                    cases fb with
                    | true =>
                      have HQN : Hid (Qi Hp B gm gl gx j l w5 w10 a (z1, z2) (x1, x2) m M7 L7 (k0 + 1) true m') := ⟨HQA.out.heap, HQA.out.met, HQA.out.last, HQA.out.one, HQA.out.len, HQA.out.below, HQA.out.big, fnd_on HQA.out.fnd⟩
                      clear HQA
                      go_wp2
                      go_roundw
                      case rel => exact ⟨k0 + 1, true, m', by omega, by go_num, rfl, HQN⟩
                      case measure => simp [intOf]; omega
                    | false =>
                      obtain rfl := fnd_same HQA.out.fnd
                      obtain ⟨bk, hbk⟩ : ∃ bk, m'[k0]? = some bk := ⟨_, List.getElem?_eq_getElem (by rw [HQA.out.len]; exact hkj)⟩
                      have k1 : w10.cell? ⟨gm, k0, none⟩ = some (.bool bk) := cell_of_blk HQA.out.met (bools_at hbk)
                      cases bk with
                      | true =>
                        have HQN : Hid (Qi Hp B gm gl gx j l w5 w10 a (z1, z2) (x1, x2) m' M7 L7 (k0 + 1) false m') := ⟨HQA.out.heap, HQA.out.met, HQA.out.last, HQA.out.one, HQA.out.len, HQA.out.below, HQA.out.big, fnd_no HQA.out.fnd (fun h => by rw [hbk] at h; cases h.2)⟩
                        clear HQA
                        go_wp2
                        go_roundw
                        case rel => exact ⟨k0 + 1, false, m', by omega, by go_num, rfl, HQN⟩
                        case measure => simp [intOf]; omega
                      | false =>
                        have k2 : w10.cell? ⟨gx, 0, none⟩ = some (.int .i64 x1) := cell_of_blk HQA.out.one rfl
                        have k3 : w10.cell? ⟨gx, 1, none⟩ = some (.int .i64 x2) := cell_of_blk HQA.out.one rfl
                        have k4 : w10.cell? ⟨gq, 0, none⟩ = some (.int .i64 q1) := cell_of_blk HNA.out rfl
                        have k5 : w10.cell? ⟨gq, 1, none⟩ = some (.int .i64 q2) := cell_of_blk HNA.out rfl
                        have heq := eq_pair (x1, x2) (q1, q2)
                        simp only at heq
                        by_cases hxq : (x1, x2) = (q1, q2)
                        · rw [decide_eq_true hxq] at heq
                          have k6 : w10.frozen? ⟨gm, k0, none⟩ = false := free_of_blk HQA.out.met
                          have HQN := Lib.hid (HQA.out.mark KK.out HNM.out.1 HFAR.out.1 HXG.out.1 HXG.out.2.1 (by rw [hxq]; exact HLQ.out) hbk)
                          clear HQA hxq hbk
                          go_wp2
                          go_roundw
                          case rel => exact ⟨k0 + 1, true, _, by omega, by go_num, rfl, HQN⟩
                          case measure => simp [intOf]; omega
                        · rw [decide_eq_false hxq] at heq
                          have HQN : Hid (Qi Hp B gm gl gx j l w5 w10 a (z1, z2) (x1, x2) m' M7 L7 (k0 + 1) false m') := ⟨HQA.out.heap, HQA.out.met, HQA.out.last, HQA.out.one, HQA.out.len, HQA.out.below, HQA.out.big, fnd_no HQA.out.fnd (fun h => hxq (by rw [HLQ.out] at h; exact (Option.some.inj h.1).symm))⟩
                          clear HQA hxq hbk
                          go_wp2
                          go_roundw
                          case rel => exact ⟨k0 + 1, false, m', by omega, by go_num, rfl, HQN⟩
                          case measure => simp [intOf]; omega
                  · obtain rfl : k0 = j := by omega
                    have e3 : decide ((k0 : Int) < (k0 : Int)) = false := decide_eq_false (by omega)
                    have hfe := fnd_end (by rw [HL.out]; exact HQI.out.fnd) HPM.out
                    obtain rfl := hfe.1
                    have k2 : wr.cell? ⟨gx, 0, none⟩ = some (.int .i64 x1) := cell_of_blk HQI.out.one rfl
                    have k3 : wr.cell? ⟨gx, 1, none⟩ = some (.int .i64 x2) := cell_of_blk HQI.out.one rfl
                    have k4 : wr.cell? ⟨gl, 0, none⟩ = some (.int .i64 z1) := cell_of_blk HQI.out.last rfl
                    have k5 : wr.cell? ⟨gl, 1, none⟩ = some (.int .i64 z2) := cell_of_blk HQI.out.last rfl
                    have k6 : wr.frozen? ⟨gl, 0, none⟩ = false := free_of_blk HQI.out.last
                    have k7 : wr.frozen? ⟨gl, 1, none⟩ = false := free_of_blk HQI.out.last
                    have HQN : Hid (Qs Hp B gm gl k0 l t w5 ((wr.setCell ⟨gl, 0, none⟩ (.int .i64 x1)).setCell ⟨gl, 1, none⟩ (.int .i64 x2)) a (i0 + 1) (x1, x2) m') := by
                      have h1 := Only.setCell wr ⟨gl, 0, none⟩ (.int .i64 x1)
                      have h2 := Only.setCell (wr.setCell ⟨gl, 0, none⟩ (.int .i64 x1)) ⟨gl, 1, none⟩ (.int .i64 x2)
                      have hg := blk_lt HQI.out.met
                      refine ⟨⟨M7, L7, heap_set KK.out (heap_set KK.out HQI.out.heap HNM.out.2) HNM.out.2, hfe.2, HLL.out, HNM.out.1, HNM.out.2, fun y hy _ => HMN.out y hy⟩, ?_, set_blk (set_blk HQI.out.last), HQI.out.len, ?_, ?_, HFAR.out⟩
                      · exact (h2.block gm (Nat.lt_of_lt_of_le hg h1.size) (fun e => HXG.out.1 e.symm)).trans ((h1.block gm hg (fun e => HXG.out.1 e.symm)).trans HQI.out.met)
                      · exact (HQI.out.below.trans (h1.below HQI.out.big fun q hq => by have e : q = gl := hq; have := HFAR.out.2.1; omega)).trans (h2.below (Nat.le_trans HQI.out.big h1.size) fun q hq => by have e : q = gl := hq; have := HFAR.out.2.1; omega)
                      · exact Nat.le_trans (Nat.le_trans HQI.out.big h1.size) h2.size
                    clear HQI hfe HORD
                    go_wp2
                    go_roundw
                    case rel => exact ⟨i0 + 1, (x1, x2), m', by omega, by go_num, HQN⟩
                    case measure => simp [intOf]; omega
              · have d4 : (x1 == z1) = false := beq_eq_false_iff_ne.2 hxz
                have d5 := right_order (HORD.out hi0') hxz
                simp only at d5
                go_wp2
                clear c1 c2 c3
                try clear d4
                try clear hxz
                go_loopw [16, 88] (fun f i wr => ∃ (k0 : Nat) (fb : Bool) (m' : List Bool), k0 ≤ j ∧ i = .int .i64 (k0 : Int) ∧ f = .bool fb ∧ Hid (Qi Hp B gm gl gx j l w5 wr a (z1, z2) (x1, x2) m M7 L7 k0 fb m'))
                  (fun _ i _ => j - (intOf i).toNat)
                case atStart => exact ⟨0, false, m, Nat.zero_le _, rfl, rfl, HQI⟩
                case round =>
                  clear HQI
                  obtain ⟨k0, fb, m', hk0, rfl, rfl, HQI⟩ := hrel
                  by_cases hkj : k0 < j
                  · have e3 : decide ((k0 : Int) < (j : Int)) = true := decide_eq_true (by omega)
                    obtain ⟨b1, o1, q, rfl, hb1, hq, hq0, hq1⟩ := two_at (HH5.out.below HQI.out.below) hkj
                    have hwk2 : IntKind.i64.wrap ((k0 : Int) + 1) = (k0 : Int) + 1 := IntWalk.i64_in _ ⟨by omega, by omega⟩
                    have hba := (Below.refl wr.heap.size wr).alloc (Nat.le_refl _) (.cells #[.int .i64 q.1, .int .i64 q.2] 39)
                    have HQA := Lib.hid (HQI.out.keep KK.out hba)
                    have HNA := Lib.hid (heap_alloc_new wr (.cells #[.int .i64 q.1, .int .i64 q.2] 39))
                    have HLQ := Lib.hid hq
                    obtain ⟨q1, q2⟩ := q
                    simp only at hq0 hq1 HQA HNA
                    clear hba HQI hq
                    go_upto_region 28 with fail
                    generalize wr.alloc (.cells #[.int .i64 q1, .int .i64 q2] 39) = w10 at *
                    generalize wr.heap.size = gq at *
                    cases fb with
                    | true =>
                      have HQN : Hid (Qi Hp B gm gl gx j l w5 w10 a (z1, z2) (x1, x2) m M7 L7 (k0 + 1) true m') := ⟨HQA.out.heap, HQA.out.met, HQA.out.last, HQA.out.one, HQA.out.len, HQA.out.below, HQA.out.big, fnd_on HQA.out.fnd⟩
                      clear HQA
                      go_wp2
                      go_roundw
                      case rel => exact ⟨k0 + 1, true, m', by omega, by go_num, rfl, HQN⟩
                      case measure => simp [intOf]; omega
                    | false =>
                      obtain rfl := fnd_same HQA.out.fnd
                      obtain ⟨bk, hbk⟩ : ∃ bk, m'[k0]? = some bk := ⟨_, List.getElem?_eq_getElem (by rw [HQA.out.len]; exact hkj)⟩
                      have k1 : w10.cell? ⟨gm, k0, none⟩ = some (.bool bk) := cell_of_blk HQA.out.met (bools_at hbk)
                      cases bk with
                      | true =>
                        have HQN : Hid (Qi Hp B gm gl gx j l w5 w10 a (z1, z2) (x1, x2) m' M7 L7 (k0 + 1) false m') := ⟨HQA.out.heap, HQA.out.met, HQA.out.last, HQA.out.one, HQA.out.len, HQA.out.below, HQA.out.big, fnd_no HQA.out.fnd (fun h => by rw [hbk] at h; cases h.2)⟩
                        clear HQA
                        go_wp2
                        go_roundw
                        case rel => exact ⟨k0 + 1, false, m', by omega, by go_num, rfl, HQN⟩
                        case measure => simp [intOf]; omega
                      | false =>
                        have k2 : w10.cell? ⟨gx, 0, none⟩ = some (.int .i64 x1) := cell_of_blk HQA.out.one rfl
                        have k3 : w10.cell? ⟨gx, 1, none⟩ = some (.int .i64 x2) := cell_of_blk HQA.out.one rfl
                        have k4 : w10.cell? ⟨gq, 0, none⟩ = some (.int .i64 q1) := cell_of_blk HNA.out rfl
                        have k5 : w10.cell? ⟨gq, 1, none⟩ = some (.int .i64 q2) := cell_of_blk HNA.out rfl
                        have heq := eq_pair (x1, x2) (q1, q2)
                        simp only at heq
                        by_cases hxq : (x1, x2) = (q1, q2)
                        · rw [decide_eq_true hxq] at heq
                          have k6 : w10.frozen? ⟨gm, k0, none⟩ = false := free_of_blk HQA.out.met
                          have HQN := Lib.hid (HQA.out.mark KK.out HNM.out.1 HFAR.out.1 HXG.out.1 HXG.out.2.1 (by rw [hxq]; exact HLQ.out) hbk)
                          clear HQA hxq hbk
                          go_wp2
                          go_roundw
                          case rel => exact ⟨k0 + 1, true, _, by omega, by go_num, rfl, HQN⟩
                          case measure => simp [intOf]; omega
                        · rw [decide_eq_false hxq] at heq
                          have HQN : Hid (Qi Hp B gm gl gx j l w5 w10 a (z1, z2) (x1, x2) m' M7 L7 (k0 + 1) false m') := ⟨HQA.out.heap, HQA.out.met, HQA.out.last, HQA.out.one, HQA.out.len, HQA.out.below, HQA.out.big, fnd_no HQA.out.fnd (fun h => hxq (by rw [HLQ.out] at h; exact (Option.some.inj h.1).symm))⟩
                          clear HQA hxq hbk
                          go_wp2
                          go_roundw
                          case rel => exact ⟨k0 + 1, false, m', by omega, by go_num, rfl, HQN⟩
                          case measure => simp [intOf]; omega
                  · obtain rfl : k0 = j := by omega
                    have e3 : decide ((k0 : Int) < (k0 : Int)) = false := decide_eq_false (by omega)
                    have hfe := fnd_end (by rw [HL.out]; exact HQI.out.fnd) HPM.out
                    obtain rfl := hfe.1
                    have k2 : wr.cell? ⟨gx, 0, none⟩ = some (.int .i64 x1) := cell_of_blk HQI.out.one rfl
                    have k3 : wr.cell? ⟨gx, 1, none⟩ = some (.int .i64 x2) := cell_of_blk HQI.out.one rfl
                    have k4 : wr.cell? ⟨gl, 0, none⟩ = some (.int .i64 z1) := cell_of_blk HQI.out.last rfl
                    have k5 : wr.cell? ⟨gl, 1, none⟩ = some (.int .i64 z2) := cell_of_blk HQI.out.last rfl
                    have k6 : wr.frozen? ⟨gl, 0, none⟩ = false := free_of_blk HQI.out.last
                    have k7 : wr.frozen? ⟨gl, 1, none⟩ = false := free_of_blk HQI.out.last
                    have HQN : Hid (Qs Hp B gm gl k0 l t w5 ((wr.setCell ⟨gl, 0, none⟩ (.int .i64 x1)).setCell ⟨gl, 1, none⟩ (.int .i64 x2)) a (i0 + 1) (x1, x2) m') := by
                      have h1 := Only.setCell wr ⟨gl, 0, none⟩ (.int .i64 x1)
                      have h2 := Only.setCell (wr.setCell ⟨gl, 0, none⟩ (.int .i64 x1)) ⟨gl, 1, none⟩ (.int .i64 x2)
                      have hg := blk_lt HQI.out.met
                      refine ⟨⟨M7, L7, heap_set KK.out (heap_set KK.out HQI.out.heap HNM.out.2) HNM.out.2, hfe.2, HLL.out, HNM.out.1, HNM.out.2, fun y hy _ => HMN.out y hy⟩, ?_, set_blk (set_blk HQI.out.last), HQI.out.len, ?_, ?_, HFAR.out⟩
                      · exact (h2.block gm (Nat.lt_of_lt_of_le hg h1.size) (fun e => HXG.out.1 e.symm)).trans ((h1.block gm hg (fun e => HXG.out.1 e.symm)).trans HQI.out.met)
                      · exact (HQI.out.below.trans (h1.below HQI.out.big fun q hq => by have e : q = gl := hq; have := HFAR.out.2.1; omega)).trans (h2.below (Nat.le_trans HQI.out.big h1.size) fun q hq => by have e : q = gl := hq; have := HFAR.out.2.1; omega)
                      · exact Nat.le_trans (Nat.le_trans HQI.out.big h1.size) h2.size
                    clear HQI hfe HORD
                    go_wp2
                    go_roundw
                    case rel => exact ⟨i0 + 1, (x1, x2), m', by omega, by go_num, HQN⟩
                    case measure => simp [intOf]; omega
            · have d3 : decide ((0 : Int) < (i0 : Int)) = false := decide_eq_false (by omega)
              go_wp2
              clear c1 c2 c3
              try clear d4
              try clear hxz
              go_loopw [16, 88] (fun f i wr => ∃ (k0 : Nat) (fb : Bool) (m' : List Bool), k0 ≤ j ∧ i = .int .i64 (k0 : Int) ∧ f = .bool fb ∧ Hid (Qi Hp B gm gl gx j l w5 wr a (z1, z2) (x1, x2) m M7 L7 k0 fb m'))
                (fun _ i _ => j - (intOf i).toNat)
              case atStart => exact ⟨0, false, m, Nat.zero_le _, rfl, rfl, HQI⟩
              case round =>
                clear HQI
                obtain ⟨k0, fb, m', hk0, rfl, rfl, HQI⟩ := hrel
                by_cases hkj : k0 < j
                · have e3 : decide ((k0 : Int) < (j : Int)) = true := decide_eq_true (by omega)
                  obtain ⟨b1, o1, q, rfl, hb1, hq, hq0, hq1⟩ := two_at (HH5.out.below HQI.out.below) hkj
                  have hwk2 : IntKind.i64.wrap ((k0 : Int) + 1) = (k0 : Int) + 1 := IntWalk.i64_in _ ⟨by omega, by omega⟩
                  have hba := (Below.refl wr.heap.size wr).alloc (Nat.le_refl _) (.cells #[.int .i64 q.1, .int .i64 q.2] 39)
                  have HQA := Lib.hid (HQI.out.keep KK.out hba)
                  have HNA := Lib.hid (heap_alloc_new wr (.cells #[.int .i64 q.1, .int .i64 q.2] 39))
                  have HLQ := Lib.hid hq
                  obtain ⟨q1, q2⟩ := q
                  simp only at hq0 hq1 HQA HNA
                  clear hba HQI hq
                  go_upto_region 28 with fail
                  generalize wr.alloc (.cells #[.int .i64 q1, .int .i64 q2] 39) = w10 at *
                  generalize wr.heap.size = gq at *
                  cases fb with
                  | true =>
                    have HQN : Hid (Qi Hp B gm gl gx j l w5 w10 a (z1, z2) (x1, x2) m M7 L7 (k0 + 1) true m') := ⟨HQA.out.heap, HQA.out.met, HQA.out.last, HQA.out.one, HQA.out.len, HQA.out.below, HQA.out.big, fnd_on HQA.out.fnd⟩
                    clear HQA
                    go_wp2
                    go_roundw
                    case rel => exact ⟨k0 + 1, true, m', by omega, by go_num, rfl, HQN⟩
                    case measure => simp [intOf]; omega
                  | false =>
                    obtain rfl := fnd_same HQA.out.fnd
                    obtain ⟨bk, hbk⟩ : ∃ bk, m'[k0]? = some bk := ⟨_, List.getElem?_eq_getElem (by rw [HQA.out.len]; exact hkj)⟩
                    have k1 : w10.cell? ⟨gm, k0, none⟩ = some (.bool bk) := cell_of_blk HQA.out.met (bools_at hbk)
                    cases bk with
                    | true =>
                      have HQN : Hid (Qi Hp B gm gl gx j l w5 w10 a (z1, z2) (x1, x2) m' M7 L7 (k0 + 1) false m') := ⟨HQA.out.heap, HQA.out.met, HQA.out.last, HQA.out.one, HQA.out.len, HQA.out.below, HQA.out.big, fnd_no HQA.out.fnd (fun h => by rw [hbk] at h; cases h.2)⟩
                      clear HQA
                      go_wp2
                      go_roundw
                      case rel => exact ⟨k0 + 1, false, m', by omega, by go_num, rfl, HQN⟩
                      case measure => simp [intOf]; omega
                    | false =>
                      have k2 : w10.cell? ⟨gx, 0, none⟩ = some (.int .i64 x1) := cell_of_blk HQA.out.one rfl
                      have k3 : w10.cell? ⟨gx, 1, none⟩ = some (.int .i64 x2) := cell_of_blk HQA.out.one rfl
                      have k4 : w10.cell? ⟨gq, 0, none⟩ = some (.int .i64 q1) := cell_of_blk HNA.out rfl
                      have k5 : w10.cell? ⟨gq, 1, none⟩ = some (.int .i64 q2) := cell_of_blk HNA.out rfl
                      have heq := eq_pair (x1, x2) (q1, q2)
                      simp only at heq
                      by_cases hxq : (x1, x2) = (q1, q2)
                      · rw [decide_eq_true hxq] at heq
                        have k6 : w10.frozen? ⟨gm, k0, none⟩ = false := free_of_blk HQA.out.met
                        have HQN := Lib.hid (HQA.out.mark KK.out HNM.out.1 HFAR.out.1 HXG.out.1 HXG.out.2.1 (by rw [hxq]; exact HLQ.out) hbk)
                        clear HQA hxq hbk
                        go_wp2
                        go_roundw
                        case rel => exact ⟨k0 + 1, true, _, by omega, by go_num, rfl, HQN⟩
                        case measure => simp [intOf]; omega
                      · rw [decide_eq_false hxq] at heq
                        have HQN : Hid (Qi Hp B gm gl gx j l w5 w10 a (z1, z2) (x1, x2) m' M7 L7 (k0 + 1) false m') := ⟨HQA.out.heap, HQA.out.met, HQA.out.last, HQA.out.one, HQA.out.len, HQA.out.below, HQA.out.big, fnd_no HQA.out.fnd (fun h => hxq (by rw [HLQ.out] at h; exact (Option.some.inj h.1).symm))⟩
                        clear HQA hxq hbk
                        go_wp2
                        go_roundw
                        case rel => exact ⟨k0 + 1, false, m', by omega, by go_num, rfl, HQN⟩
                        case measure => simp [intOf]; omega
                · obtain rfl : k0 = j := by omega
                  have e3 : decide ((k0 : Int) < (k0 : Int)) = false := decide_eq_false (by omega)
                  have hfe := fnd_end (by rw [HL.out]; exact HQI.out.fnd) HPM.out
                  obtain rfl := hfe.1
                  have k2 : wr.cell? ⟨gx, 0, none⟩ = some (.int .i64 x1) := cell_of_blk HQI.out.one rfl
                  have k3 : wr.cell? ⟨gx, 1, none⟩ = some (.int .i64 x2) := cell_of_blk HQI.out.one rfl
                  have k4 : wr.cell? ⟨gl, 0, none⟩ = some (.int .i64 z1) := cell_of_blk HQI.out.last rfl
                  have k5 : wr.cell? ⟨gl, 1, none⟩ = some (.int .i64 z2) := cell_of_blk HQI.out.last rfl
                  have k6 : wr.frozen? ⟨gl, 0, none⟩ = false := free_of_blk HQI.out.last
                  have k7 : wr.frozen? ⟨gl, 1, none⟩ = false := free_of_blk HQI.out.last
                  have HQN : Hid (Qs Hp B gm gl k0 l t w5 ((wr.setCell ⟨gl, 0, none⟩ (.int .i64 x1)).setCell ⟨gl, 1, none⟩ (.int .i64 x2)) a (i0 + 1) (x1, x2) m') := by
                    have h1 := Only.setCell wr ⟨gl, 0, none⟩ (.int .i64 x1)
                    have h2 := Only.setCell (wr.setCell ⟨gl, 0, none⟩ (.int .i64 x1)) ⟨gl, 1, none⟩ (.int .i64 x2)
                    have hg := blk_lt HQI.out.met
                    refine ⟨⟨M7, L7, heap_set KK.out (heap_set KK.out HQI.out.heap HNM.out.2) HNM.out.2, hfe.2, HLL.out, HNM.out.1, HNM.out.2, fun y hy _ => HMN.out y hy⟩, ?_, set_blk (set_blk HQI.out.last), HQI.out.len, ?_, ?_, HFAR.out⟩
                    · exact (h2.block gm (Nat.lt_of_lt_of_le hg h1.size) (fun e => HXG.out.1 e.symm)).trans ((h1.block gm hg (fun e => HXG.out.1 e.symm)).trans HQI.out.met)
                    · exact (HQI.out.below.trans (h1.below HQI.out.big fun q hq => by have e : q = gl := hq; have := HFAR.out.2.1; omega)).trans (h2.below (Nat.le_trans HQI.out.big h1.size) fun q hq => by have e : q = gl := hq; have := HFAR.out.2.1; omega)
                    · exact Nat.le_trans (Nat.le_trans HQI.out.big h1.size) h2.size
                  clear HQI hfe HORD
                  go_wp2
                  go_roundw
                  case rel => exact ⟨i0 + 1, (x1, x2), m', by omega, by go_num, HQN⟩
                  case measure => simp [intOf]; omega
          · obtain rfl : i0 = j := by omega
            have e2 : decide ((i0 : Int) < (i0 : Int)) = false := decide_eq_false (by omega)
            have hL0 : L.length = 0 := by omega
            have hlen : Calls Try.prog 19 #[.pointer (some a)] wr _ := KK.out.len wr M a L hiv.out hm (by omega)
            rw [hL0] at hlen
            have HBE := Lib.hid (HB5.out.trans (HQ.out.below.mono HWB.out))
            go_wp2_with fail
            refine hlen.mono ?_
            rintro e7 w7 ⟨rfl, hb7⟩
            have HBF : Hid (Below w.heap.size w w7) := by rw [HGT.out]; exact HBE.out.trans (hb7.mono (by have h1 := HQ.out.big; have h2 := HWB.out; omega))
            clear hb7
            go_wp2
            go_ret
            exact ⟨rfl, HBF.out⟩
end Go.Proofs.Ythhnemanaciikaa.Hq
