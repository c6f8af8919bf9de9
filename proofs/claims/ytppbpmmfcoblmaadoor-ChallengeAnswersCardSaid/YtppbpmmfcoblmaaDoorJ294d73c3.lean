/- Lemmas that the proof stands on, in build order: ShaB ShaC Cell. -/
import Derived.OwnWalk
import Derived.Great.BuildSlice
import Derived.Test.YtppbpmmfcoblmaaDoorJ1ef7bc1
import Derived.Test.YtppbpmmfcoblmaaDoorJ24e72b8
import Derived.Test.YtppbpmmfcoblmaaDoorJ28887e8c
/- Layer 7 (sha): the program's behind (what follows the bytes), as a contract. -/
namespace Go.Proofs.YtppbpmmfcoblmaaDoor.Sha
open Go.RowKit

/-- What follows n bytes. -/
def tail (n : Nat) : List Int := 128 :: List.replicate (zeros n) 0 ++ be 8 (8 * n)
theorem pad_tail (b : List Int) : pad b = b ++ tail b.length := by simp [pad, stem, tail]
theorem tail_len (n : Nat) : (tail n).length = 9 + zeros n := by simp [tail, be_len]; omega
theorem tail_byt (n : Nat) : ∀ x ∈ tail n, 0 ≤ x ∧ x ≤ 255 := by
  intro x hx
  unfold tail at hx
  simp only [List.cons_append, List.mem_append, List.mem_cons, List.mem_replicate] at hx
  rcases hx with rfl | ⟨_, rfl⟩ | hx
  · omega
  · omega
  · exact be_byt _ _ x hx
theorem be_take (m k : Nat) (hk : k < 8) : (be 8 m).take (k + 1) = (be 8 m).take k ++ [((m / 256 ^ (7 - k) % 256 : Nat) : Int)] := by
  obtain rfl | rfl | rfl | rfl | rfl | rfl | rfl | rfl : k = 0 ∨ k = 1 ∨ k = 2 ∨ k = 3 ∨ k = 4 ∨ k = 5 ∨ k = 6 ∨ k = 7 := by omega
  all_goals rfl
theorem pow_256 (j : Nat) : 256 ^ j = 2 ^ (8 * j) := by rw [Nat.pow_mul]

theorem made_zeros (m : Nat) : (madeCells (Value.int .u8 0).cells (m * 1)).toList = (List.replicate m (0 : Int)).map (Value.int .u8) := by
  apply List.ext_getElem
  · simp [madeCells]
  · intro i h1 h2
    simp [madeCells, Value.cells, Nat.mod_one]

set_option maxHeartbeats 1600000 in
set_option maxRecDepth 100000 in
theorem behind_any (n : Nat) (w : World) (hn : n ≤ 1099511627776) :
    Calls Tryd.prog 105 #[.int .u64 (n : Int)] w fun e w' => ∃ v, e = .returned v ∧ w'.ownsRow w.heap.size 5 1 v (9 + zeros n) ((tail n).map (Value.int .u8)) ∧ Below w.heap.size w w' := by
  obtain ⟨i0, hi, hz0, hz1, hz2⟩ := parts_of info8
  obtain ⟨z, hzz⟩ : ∃ z, zeros n = z := ⟨_, rfl⟩
  have hz : z < 64 := by rw [← hzz]; exact zeros_le n
  have a1 : IntKind.u64.wrap (119 - (n : Int) % 64) = 119 - (n : Int) % 64 := IntWalk.u64_in _ ⟨by omega, by omega⟩
  have a2 : (119 - (n : Int) % 64) % 64 = (z : Int) := by rw [← hzz]; unfold zeros; omega
  have a3 : IntKind.u64.wrap (1 + (z : Int)) = ((z + 1 : Nat) : Int) := by rw [IntWalk.u64_in _ ⟨by omega, by omega⟩]; omega
  rw [hzz]
  have HZ := Lib.hid hzz
  clear hzz
  go_enter Tryd.func105, Tryd.ntmps105
  go_wp2_with (first
        | (at_make; refine wpList_make_full _ rfl _ _ 25 rfl w.heap.size 5 i0 (.int .u8 0) 1 Tryd.underlying25 hi hz0 hz1 _ _ _ _ (z + 1) rfl rfl rfl rfl (by rw [hz2]; omega) (by unfold maxLen; omega) (Nat.le_refl _) ?_; intro w1 hown1 hg1; rw [made_zeros] at hown1; have HO1 := Lib.hid (hown1.stored 0 (.int .u8 128)).1; have HB1 := Lib.hid ((Below.refl w.heap.size w).grown hg1 (Nat.le_refl _) (fun j hj => by cases hj)); have k0 := hown1.cellAt 0 (by omega); have k1 := hown1.frozenAt 0; rw [List.replicate_succ] at k0; clear hown1 hg1))
  have HL : Hid (((List.replicate (z + 1) (0 : Int)).map (Value.int .u8)).set 0 (.int .u8 128) = ((128 :: List.replicate z 0) ++ (be 8 (8 * n)).take 0).map (Value.int .u8)) := by
    unfold Hid
    rw [List.replicate_succ]
    simp
  rw [HL.out] at HO1
  have HB2 := Lib.hid (HB1.out.setCell (p := ⟨w.heap.size, 0, none⟩) (Nat.le_refl _) (.int .u8 128))
  generalize w1.setCell ⟨w.heap.size, 0, none⟩ (.int .u8 128) = w2 at HO1 HB2 ⊢
  clear k0 k1 HL HB1 a1 a2 a3
  obtain ⟨Z, hZ⟩ : ∃ Z, 128 :: List.replicate z (0 : Int) = Z := ⟨_, rfl⟩
  rw [hZ] at HO1
  have HZ2 := Lib.hid hZ
  clear hZ
  have m8 : IntKind.u64.wrap (8 * (n : Int)) = 8 * (n : Int) := IntWalk.u64_in _ ⟨by omega, by omega⟩
  go_wp2_with fail
  go_loopw [4, 5] (fun v i wr => ∃ k : Nat, k ≤ 8 ∧ i = .int .i64 (56 - 8 * (k : Int)) ∧ Hid (wr.ownsRow w.heap.size 5 1 v (z + 1 + k) ((Z ++ (be 8 (8 * n)).take k).map (Value.int .u8))) ∧ Hid (Below w.heap.size w wr)) (fun _ i _ => (64 + intOf i).toNat)
  case atStart => exact ⟨0, Nat.zero_le _, rfl, HO1, HB2⟩
  case round =>
    obtain ⟨k, hk, rfl, HO, HB⟩ := hrel
    obtain ⟨A', c', rfl, -, -⟩ := own_slice HO.out
    by_cases hk8 : k < 8
    · obtain ⟨s, hs⟩ : ∃ s, 7 - k = s := ⟨_, rfl⟩
      have e1 : 56 - 8 * (k : Int) = ((8 * s : Nat) : Int) := by omega
      have hbt := be_take (8 * n) k hk8
      rw [hs, pow_256] at hbt
      rw [e1]
      have e2 : IntKind.i64.wrap (((8 * s : Nat) : Int) - 8) = 56 - 8 * ((k + 1 : Nat) : Int) := by rw [IntWalk.i64_in _ ⟨by omega, by omega⟩]; omega
      obtain ⟨T, hT⟩ : ∃ T, 8 * s = T := ⟨_, rfl⟩
      rw [hT] at hbt e2
      rw [hT]
      have hTb : T ≤ 56 := by omega
      have hT1 : (T : Int) ≤ 56 - 8 * (k : Int) := by omega
      have hT2 : 56 - 8 * (k : Int) ≤ (T : Int) := by omega
      have e3 : (0 : Int) ≤ (T : Int) := by omega
      have hv : IntKind.u8.wrap (8 * (n : Int) / 2 ^ T) = ((8 * n / 2 ^ T % 256 : Nat) : Int) := by rw [IntKind.wrap_u8']; norm_cast
      obtain ⟨x, hx⟩ : ∃ x, 8 * n / 2 ^ T % 256 = x := ⟨_, rfl⟩
      rw [hx] at hbt hv
      have HBT := Lib.hid hbt
      have HK := Lib.hid hk8
      clear hbt hs e1 hT hx
      go_wp2_with (at_builtin; refine push_own rfl (.tmp 19) (.tmp 25) 25 rfl w.heap.size 5 i0 .u8 1 Tryd.underlying25 hi hz0 hz1 hz2 _ (z + 1 + k) (Z ++ (be 8 (8 * n)).take k) (x : Int) rfl HO.out rfl (by omega) (by omega) HB.out.size ?_; intro v3 w3 hown3 hb3; have HO3 := Lib.hid hown3; have HB3 := Lib.hid (HB.out.trans hb3); clear hown3 hb3)
      go_roundw
      case rel =>
        refine ⟨k + 1, by omega, congrArg (Value.int .i64) (by omega), ?_, HB3.out⟩
        rw [HBT.out, ← List.append_assoc]
        exact HO3.out
      case measure => simp [intOf]; omega
    · obtain rfl : k = 8 := by omega
      go_wp2
      go_ret
      refine ⟨_, rfl, ?_, HB.out⟩
      have e : tail n = Z ++ (be 8 (8 * n)).take 8 := by
        unfold tail
        rw [HZ.out, HZ2.out]
        rfl
      rw [e, show 9 + z = z + 1 + 8 by omega]
      exact HO.out
end Go.Proofs.YtppbpmmfcoblmaaDoor.Sha

/- Layer 7 (sha): the program's Parts and Sum, as contracts. -/
namespace Go.Proofs.YtppbpmmfcoblmaaDoor.Sha
open Go.RowKit

/-- A part: where it lies, and its bytes. -/
structure Prt where
  A : Option Addr
  n : Nat
  c : Nat
  xs : List Int
structure Prt.ok (p : Prt) (w : World) (B : Nat) : Prop where
  row : Row .u8 w B p.A p.n p.xs
  le : p.n ≤ p.c
  byt : ∀ x ∈ p.xs, 0 ≤ x ∧ x ≤ 255
def cats (ps : List Prt) : List Int := (ps.map Prt.xs).flatten
theorem cats_snoc (ps : List Prt) (p : Prt) : cats (ps ++ [p]) = cats ps ++ p.xs := by simp [cats]
/-- A slice of parts. -/
structure PRow (w : World) (B : Nat) (A : Option Addr) (ps : List Prt) : Prop where
  cell : ∀ j p, ps[j]? = some p → ∃ b o, A = some ⟨b, o, none⟩ ∧ b < B ∧ w.cell? ⟨b, o + j, none⟩ = some (.slice p.A p.n p.c)
  ok : ∀ p ∈ ps, p.ok w B
/-- What the package's tables hold. -/
structure Lay (w : World) : Prop where
  tab : Tab w
  ini : w.rangeAt 0 0 (wv hs)
theorem Lay.below {w w' : World} {B : Nat} (h : Lay w) (hb : Below B w w') (hB : Glo < B) : Lay w' :=
  ⟨h.tab.below hb hB, fun j v hv => (hb.cell (p := ⟨0, 0 + j, none⟩) (Glo.ini hB)).trans (h.ini j v hv)⟩

theorem built_run : Tryd.prog.built 145 [(0, .agg (wv hs).toArray)] = some (rcells hs (List.replicate 64 0) 0).toArray := by kernel_rfl
theorem e73 : (Tryd.prog.info? 145).map (·.size) = some 73 := by kernel_rfl
theorem r73 : (rcells hs (List.replicate 64 0) 0).toArray.all (·.oneCell') = true := by kernel_rfl
theorem zero_run (w : World) : (zeroValue 145).run Tryd.prog w = .ok (.agg (rcells (List.replicate 8 0) (List.replicate 64 0) 0).toArray) w := by kernel_rfl
theorem index_wv {H : List Wd} (h : H.length = 8) (i : Nat) (hi : i < 8) (w : World) : (Instr.index 143 (.agg (wv H).toArray) (.int .i64 (i : Int))).run Tryd.prog w = .ok (.int .u32 (wi (wat H i))) w := by
  match H, h with
  | [a0, a1, a2, a3, a4, a5, a6, a7], _ => exact index8 [a0, a1, a2, a3, a4, a5, a6, a7] i hi w

/-- While the parts go in. -/
structure Pa (w : World) (ps : List Prt) (k : Nat) (w' : World) : Prop where
  run : ∃ H L, Run w' w.heap.size (cats (ps.take k)) H L
  bel : Below w.heap.size w w'
theorem cats_take {ps : List Prt} {k : Nat} {p : Prt} (h : ps[k]? = some p) : cats (ps.take (k + 1)) = cats (ps.take k) ++ p.xs := by
  have hk := (List.getElem?_eq_some_iff.1 h).1
  rw [List.take_succ_eq_append_getElem hk, cats_snoc, (List.getElem?_eq_some_iff.1 h).2]
theorem cats_le {ps : List Prt} {k : Nat} {p : Prt} (h : ps[k]? = some p) : (cats (ps.take k)).length + p.xs.length ≤ (cats ps).length := by
  have e : cats ps = cats (ps.take (k + 1)) ++ cats (ps.drop (k + 1)) := by
    unfold cats
    rw [← List.flatten_append, ← List.map_append, List.take_append_drop]
  rw [e, cats_take h]
  simp
theorem rcells_range {w : World} {R c : Nat} {H : List Wd} {L : List Int} {t : TypeId} (h : w.heap[R]? = some (.cells (rcells H L c).toArray t (0, 0))) (_ : H.length = 8) : w.rangeAt R 0 (wv H) := fun j v hv => by
  rw [Nat.zero_add]
  refine cell_of_blk h ?_
  rw [List.getElem?_toArray]
  unfold rcells
  rw [List.getElem?_append_left (List.getElem?_eq_some_iff.1 hv).1]
  exact hv
/-- While the words are written as bytes. -/
structure Wo (w : World) (B : Nat) (H : List Wd) (v : Value) (t : Nat) (w' : World) : Prop where
  own : w'.ownsRow B 5 1 v (4 * t) ((outs H t).map (Value.int .u8))
  bel : Below B w w'
theorem out4_shr (a : Wd) : [wi a / 16777216, wi a / 65536 % 256, wi a / 256 % 256, wi a % 256] = out4 a := by
  have e : wi a = (a.toNat : Int) := rfl
  have := a.isLt
  unfold out4
  rw [e]
  simp only [List.cons.injEq, and_true]
  refine ⟨?_, ?_, ?_, ?_⟩ <;> omega

set_option maxHeartbeats 3200000 in
set_option maxRecDepth 100000 in
theorem parts_any (A : Option Addr) (n c B : Nat) (ps : List Prt) (w : World) (h : PRow w B A ps) (hn : ps.length = n) (hnb : n ≤ 1099511627776) (hB : B ≤ w.heap.size) (hl : (cats ps).length ≤ 1099511627776) (hT : Lay w) :
    Calls Tryd.prog 99 #[.slice A n c] w fun e w' => ∃ v, e = .returned v ∧ w'.ownsRow w.heap.size 5 1 v 32 ((outs (blocks ks hs (pad (cats ps)) ((pad (cats ps)).length / 64)) 8).map (Value.int .u8)) ∧ Below w.heap.size w w' := by
  obtain ⟨i0, hi, hz0, hz1, hz2⟩ := parts_of info8
  have H := Lib.hid h
  have HN := Lib.hid hn
  have HB := Lib.hid hB
  have HL := Lib.hid hl
  have HT := Lib.hid hT
  clear h hn hB hl hT
  have hi37 : (Tryd.prog.info? 143).map (·.size) = some (wv hs).length := info8w hs_len
  have I37 := Lib.hid hi37
  clear hi37
  go_enter Tryd.func99, Tryd.ntmps99
  have hr0 := rcells_len (c := 0) hs_len (show (List.replicate 64 (0 : Int)).length = 64 by rfl)
  have I73 : Hid ((Tryd.prog.info? 145).map (·.size) = some (rcells hs (List.replicate 64 0) 0).toArray.size) := by
    unfold Hid
    rw [List.size_toArray, hr0]
    exact e73
  have O73 : Hid ((rcells hs (List.replicate 64 0) 0).toArray.all (·.oneCell') = true) := r73
  clear hr0
  obtain ⟨C, hC⟩ : ∃ C, (rcells hs (List.replicate 64 0) 0).toArray = C := ⟨_, rfl⟩
  have HBU := Lib.hid built_run
  have hz41 := zero_run
  have hzs : (rcells (List.replicate 8 0) (List.replicate 64 0) 0).toArray.size = C.size := by
    rw [← hC, List.size_toArray, List.size_toArray]
    rfl
  obtain ⟨Z, hZ⟩ : ∃ Z, (rcells (List.replicate 8 0) (List.replicate 64 0) 0).toArray = Z := ⟨_, rfl⟩
  rw [hZ] at hz41 hzs
  have HZS := Lib.hid hzs
  clear hZ hzs
  rw [hC] at I73 O73 HBU
  have HC := Lib.hid hC
  clear hC
  go_wp2_with (first
    | (with_reducible refine wpList_load_mid rfl 143 (.global 0) rfl 0 0 rfl (wv hs) _ HT.out.ini Tryd.underlying143 rfl I37.out ?_)
    | (refine wpList_buildTo rfl 145 #[(0, .tmp 9)] rfl (some 10) rfl C (by simp only [List.map_toArray, List.map_cons, List.map_nil]; exact HBU.out) ?_)
    | (with_reducible refine wpList_store_row rfl 145 (.tmp 3) (.tmp 10) rfl w.heap.size C rfl rfl 145 _ (heap_alloc_new _ _) I73.out HZS.out O73.out ?_))
  have HP0 : Hid (Pa w ps 0 ((w.alloc (.cells Z 145)).setRow w.heap.size C)) :=
    ⟨⟨hs, List.replicate 64 0, ⟨by rw [List.take_zero]; exact (setRow_heap _ _ _ _ _ _ (heap_alloc_new w _)).trans (by rw [← HC.out]; rfl), Rn.start⟩⟩, Sha.below_setRow ((Below.refl _ w).alloc (Nat.le_refl _) _) (Nat.le_refl _) C⟩
  clear hz41 HC HBU HZS I73 O73
  go_loopw [5, 13] (fun _ i wr => ∃ k : Nat, k ≤ n ∧ i = .int .i64 (k : Int) ∧ Hid (Pa w ps k wr)) (fun _ i _ => n - (intOf i).toNat)
  case atStart => exact ⟨0, Nat.zero_le _, rfl, HP0⟩
  case round =>
    obtain ⟨k, hk, rfl, HP⟩ := hrel
    by_cases hlt : k < n
    · obtain ⟨p, hp⟩ : ∃ p, ps[k]? = some p := ⟨_, List.getElem?_eq_getElem (by have := HN.out; omega)⟩
      obtain ⟨bb, oo, rfl, hbb, kcell⟩ := H.out.cell k p hp
      have hok := H.out.ok p (List.mem_of_getElem? hp)
      have kc : wr.cell? ⟨bb, oo + k, none⟩ = some (.slice p.A p.n p.c) := (HP.out.bel.cell (p := ⟨bb, oo + k, none⟩) (by have := HB.out; show bb < _; omega)).trans kcell
      have hct := cats_take hp
      have hle := cats_le hp
      obtain ⟨H1, L1, hrun⟩ := HP.out.run
      have hrow : Row .u8 wr B p.A p.n p.xs := hok.row.below (HP.out.bel.mono HB.out)
      have hne : 0 < p.n → ∀ b o, p.A = some ⟨b, o, none⟩ → b ≠ w.heap.size := fun h0 b o e => by
        obtain ⟨b', o', e', hb', -⟩ := hok.row.2 h0
        rw [e'] at e
        injection e with e
        injection e with e1 e2
        have := HB.out
        omega
      have HROW := Lib.hid hrow
      have HNE := Lib.hid hne
      have HOK := Lib.hid hok
      have HRUN := Lib.hid hrun
      have HCT := Lib.hid hct
      have hlen : (cats (ps.take k)).length + p.n ≤ 4398046511104 := by
        have h1 := hok.row.len
        have h2 := HL.out
        omega
      have HLEN := Lib.hid hlen
      have HTA := Lib.hid (HT.out.tab.below HP.out.bel HT.out.tab.1)
      clear hp hok hct hle hrow hne hrun kcell hlen
      go_wp2_with fail
      refine (add_any p.A p.n p.c w.heap.size B p.xs (cats (ps.take k)) H1 L1 _ HROW.out (Nat.le_trans HB.out HP.out.bel.size) HOK.out.le HNE.out HOK.out.byt HRUN.out HTA.out HT.out.tab.1 HLEN.out).mono ?_
      rintro e2 w2 ⟨rfl, H2, L2, hr2, ho2⟩
      have HP2 : Hid (Pa w ps (k + 1) w2) := ⟨⟨H2, L2, by rw [HCT.out]; exact hr2⟩, HP.out.bel.trans (ho2.below HP.out.bel.size (fun i h => Nat.le_of_eq h.symm))⟩
      clear hr2 ho2
      go_wp2
      go_roundw
      case rel => exact ⟨k + 1, by omega, by go_num, HP2⟩
      case measure => simp [intOf]; omega
    · obtain rfl : k = n := by omega
      obtain ⟨H1, L1, hrun⟩ := HP.out.run
      rw [show ps.take k = ps from List.take_of_length_le (by have h1 : ps.length = k := HN.out; omega)] at hrun
      obtain ⟨kc, kf⟩ := hrun.count
      obtain ⟨N, hN⟩ : ∃ N, (cats ps).length = N := ⟨_, rfl⟩
      rw [hN] at kc
      have HNN := Lib.hid hN
      have HRUN := Lib.hid hrun
      have HBE := Lib.hid HP.out.bel
      clear hN hrun HP HP0 hlt hk
      go_wp2_with fail
      refine (behind_any N _ (by rw [← HNN.out]; exact HL.out)).mono ?_
      rintro e2 w2 ⟨v2, rfl, hown2, hb2⟩
      have HOW2 := Lib.hid hown2
      have HB2 := Lib.hid hb2
      clear hown2 hb2 kc kf
      obtain ⟨A2, c2, rfl, -, -⟩ := own_slice HOW2.out
      have HRL := Lib.hid HRUN.out.lt
      have HRUN2 : Hid (Run w2 w.heap.size (cats ps) H1 L1) := ⟨(HB2.out.block w.heap.size HRL.out).trans HRUN.out.blk, HRUN.out.rn⟩
      have HBE2 := Lib.hid (HBE.out.trans (HB2.out.mono HBE.out.size))
      have HNE : Hid (0 < 9 + zeros N → ∀ b o, A2 = some ⟨b, o, none⟩ → b ≠ w.heap.size) := fun _ b o e => by
        obtain ⟨g, e2, hg⟩ := own_at HOW2.out (by omega)
        rw [e] at e2
        injection e2 with e2
        injection e2 with e2 e3
        have := HRL.out
        omega
      have HC2 : Hid (9 + zeros N ≤ c2) := by
        obtain ⟨A', c', e, h1, -⟩ := own_slice HOW2.out
        injection e with e1 e2 e3
        rw [e3]; exact h1
      have hzn := zeros_le N
      have HLEN : Hid ((cats ps).length + (9 + zeros N) ≤ 4398046511104) := by
        have h1 : (cats ps).length ≤ 1099511627776 := HL.out
        show (cats ps).length + (9 + zeros N) ≤ 4398046511104
        omega
      have HTA := Lib.hid (HT.out.tab.below HBE2.out HT.out.tab.1)
      clear hzn
      go_wp2_with fail
      refine (add_any A2 (9 + zeros N) c2 w.heap.size w2.heap.size (tail N) (cats ps) H1 L1 _ (Row.of_own HOW2.out) (Nat.le_refl _) HC2.out HNE.out (tail_byt N) HRUN2.out HTA.out HT.out.tab.1 HLEN.out).mono ?_
      rintro e3 w3 ⟨rfl, H3, L3, hr3, ho3⟩
      have hpad : cats ps ++ tail N = pad (cats ps) := by rw [pad_tail, HNN.out]
      rw [hpad] at hr3
      have HBE3 := Lib.hid (HBE2.out.trans (ho3.below HBE2.out.size (fun i h => Nat.le_of_eq h.symm)))
      have HR3 := Lib.hid hr3
      clear hpad hr3 ho3 HRUN HBE HOW2 HB2 HRUN2 HBE2 HNE HC2 HLEN HTA HRL
      have I37b : Hid ((Tryd.prog.info? 143).map (·.size) = some (wv H3).length) := info8w HR3.out.rn.h8
      go_wp2_with (first
        | (at_make; refine wpList_make_own _ rfl _ _ 25 rfl w3.heap.size 5 i0 (.int .u8 0) 1 Tryd.underlying25 hi hz0 hz1 _ _ _ 32 rfl rfl rfl (by rw [hz2]; omega) (by unfold maxLen; omega) (Nat.le_refl _) ?_; intro w4 hown4 hg4; have HO4 := Lib.hid hown4; have HB4 := Lib.hid ((Below.refl w3.heap.size w3).grown hg4 (Nat.le_refl _) (fun j hj => by cases hj)); clear hown4 hg4; have k4 := (HB4.out.block w.heap.size HR3.out.lt).trans HR3.out.blk; have HK4 := Lib.hid k4; clear k4)
        | (with_reducible refine wpList_load_mid rfl 143 (.tmp 25) rfl w.heap.size 0 rfl (wv H3) _ (rcells_range HK4.out HR3.out.rn.h8) Tryd.underlying143 rfl I37b.out ?_))
      have h8 := HR3.out.rn.h8
      have HIX := Lib.hid (fun (i : Nat) (hi : i < 8) (w : World) => index_wv h8 i hi w)
      have HW0 : Hid (Wo w3 w3.heap.size H3 (.slice (some ⟨w3.heap.size, 0, none⟩) 0 32) 0 w4) := ⟨HO4.out, HB4.out⟩
      clear h8 HO4 HB4 HK4 I37b
      go_loopw [6, 8, 27] (fun v _ i wr => ∃ t : Nat, t ≤ 8 ∧ i = .int .i64 (t : Int) ∧ Hid (Wo w3 w3.heap.size H3 v t wr)) (fun _ _ i _ => 8 - (intOf i).toNat)
      case atStart => exact ⟨0, Nat.zero_le _, rfl, HW0⟩
      case round =>
        obtain ⟨t, ht, rfl, HW⟩ := hrel
        by_cases hlt : t < 8
        · have hix := HIX.out t hlt
          obtain ⟨a, ha⟩ : ∃ a, wat H3 t = a := ⟨_, rfl⟩
          rw [ha] at hix
          have hab := wi_bd a
          have HAA := Lib.hid ha
          have hlt2 : (t : Int) < 8 := by omega
          have hown := HW.out.own
          have HOW := Lib.hid hown
          have HBW := Lib.hid HW.out.bel
          clear ha hown
          go_wp2_with (at_builtin; refine lit_own rfl (.tmp 30) (.tmp 42) 25 rfl w3.heap.size 5 i0 .u8 1 Tryd.underlying25 hi hz0 hz1 hz2 _ (4 * t) (outs H3 t) rfl HOW.out 4 [_, _, _, _] rfl rfl rfl (by omega) (by omega) HBW.out.size ?_; intro v4 w4 hown4 hb4; have HOW4 := Lib.hid hown4; have HB4 := Lib.hid (HBW.out.trans hb4); clear hown4 hb4)
          rw [out4_shr, ← HAA.out] at HOW4
          have HW5 : Hid (Wo w3 w3.heap.size H3 v4 (t + 1) w4) := ⟨HOW4.out, HB4.out⟩
          go_roundw
          case rel => exact ⟨t + 1, by omega, by go_num, HW5⟩
          case measure => simp [intOf]; omega
        · obtain rfl : t = 8 := by omega
          go_wp2
          go_ret
          refine ⟨_, rfl, ?_, HBE3.out.trans (HW.out.bel.mono HBE3.out.size)⟩
          rw [← HR3.out.rn.hash]
          exact own_low HW.out.own HBE3.out.size

/-- What a part reads as, behind a block that was made. -/
theorem Prt.ok.below {p : Prt} {w w' : World} {B : Nat} (h : p.ok w B) (hb : Below B w w') : p.ok w' B := ⟨h.row.below hb, h.le, h.byt⟩
theorem Prt.ok.more {p : Prt} {w : World} {B B' : Nat} (h : p.ok w B) (hB : B ≤ B') : p.ok w B' := ⟨h.row.more hB, h.le, h.byt⟩
/-- A slice of parts that was just written out. -/
theorem prow_lit {w : World} {t : TypeId} {B : Nat} (ps : List Prt) (h : ∀ p ∈ ps, p.ok w B) (hB : B ≤ w.heap.size) : PRow (w.alloc (.cells (ps.map fun p => Value.slice p.A p.n p.c).toArray t)) (w.heap.size + 1) (some ⟨w.heap.size, 0, none⟩) ps := by
  refine ⟨fun j p hp => ⟨w.heap.size, 0, rfl, by omega, ?_⟩, fun p hp => ((h p hp).below ((Below.refl _ _).alloc hB _)).more (by omega)⟩
  rw [Nat.zero_add]
  refine cell_of_blk (heap_alloc_new w _) ?_
  rw [List.getElem?_toArray, List.getElem?_map, hp]
  rfl

set_option maxHeartbeats 800000 in
set_option maxRecDepth 100000 in
theorem sum_any (A : Option Addr) (n c B : Nat) (b : List Int) (w : World) (h : Row .u8 w B A n b) (hB : B ≤ w.heap.size) (hc : n ≤ c) (hb : ∀ x ∈ b, 0 ≤ x ∧ x ≤ 255) (hn : n ≤ 1099511627776) (hT : Lay w) :
    Calls Tryd.prog 103 #[.slice A n c] w fun e w' => ∃ v, e = .returned v ∧ w'.ownsRow w.heap.size 5 1 v 32 ((outs (blocks ks hs (pad b) ((pad b).length / 64)) 8).map (Value.int .u8)) ∧ Below w.heap.size w w' := by
  have hp := prow_lit (t := 25) (w := w) (B := B) [⟨A, n, c, b⟩] (by intro p hp; rw [List.mem_singleton] at hp; subst hp; exact ⟨h, hc, hb⟩) hB
  have hcat : cats [⟨A, n, c, b⟩] = b := by simp [cats]
  have hl := h.len
  have HP := Lib.hid hp
  have HC := Lib.hid hcat
  have HT := Lib.hid (hT.below ((Below.refl w.heap.size w).alloc (Nat.le_refl _) (.cells #[.slice A n c] 25)) hT.tab.1)
  have HL : Hid ((cats [⟨A, n, c, b⟩]).length ≤ 1099511627776) := by
    unfold Hid
    rw [hcat]
    omega
  clear h hB hc hb hn hT hp hcat hl
  go_enter Tryd.func103, Tryd.ntmps103
  go_wp2_with fail
  refine (parts_any (some ⟨w.heap.size, 0, none⟩) 1 1 (w.heap.size + 1) [⟨A, n, c, b⟩] _ HP.out rfl (by omega) (by simp) HL.out HT.out).mono ?_
  rintro e2 w2 ⟨v2, rfl, hown2, hb2⟩
  rw [HC.out] at hown2
  have HO2 := Lib.hid hown2
  have HB2 := Lib.hid hb2
  clear hown2 hb2
  go_wp2
  go_ret
  exact ⟨_, rfl, own_low HO2.out (by simp), ((Below.refl w.heap.size w).alloc (Nat.le_refl _) _).trans (HB2.out.mono (by simp))⟩
end Go.Proofs.YtppbpmmfcoblmaaDoor.Sha

/- The cells of a row of one's own, over any program. -/
namespace Go.Proofs.YtppbpmmfcoblmaaDoor
open Go.RowKit

theorem own_cell {w : World} {base n : Nat} {v : Value} {xs : List Int} {e : TypeId} (h : w.ownsRow base e 1 v n (xs.map (Value.int .u8))) (hn : 0 < n) : ∃ g c, v = .slice (some ⟨g, 0, none⟩) n c ∧ ∀ j, j < n → w.cell? ⟨g, j, none⟩ = some (.int .u8 (xs.getD j 0)) := by
  obtain ⟨A, c, rfl, -, -⟩ := own_slice h
  obtain ⟨g, rfl, -⟩ := own_at h hn
  have hr : Row .u8 w w.heap.size (some ⟨g, 0, none⟩) n xs := Row.of_own h
  refine ⟨g, c, rfl, fun j hj => ?_⟩
  obtain ⟨b, o, e, -, hc⟩ := hr.cell_at hj
  injection e with e
  injection e with e1 e2
  subst e1 e2
  rwa [Nat.zero_add] at hc
end Go.Proofs.YtppbpmmfcoblmaaDoor
