/- Lemmas that the proof stands on, in build order: Rpt GfU. -/
import Derived.Deep.QuietTactic
import Derived.BigQuiet
import Derived.WalkMore
import Derived.Deep.DeepCutAuto
import Derived.Laws.BitsAllLaws
import Derived.Test.YtdgaaghkhkklpaaJ21bd6f6
import Derived.Test.YtdgaaghkhkklpaaJ2985fbda
import Derived.Test.YtdgaaghkhkklpaaJ3014ee10
import Derived.Test.YtdgaaghkhkklpaaJ32491d42
import Derived.Test.YtdgaaghkhkklpaaJ35737feb
import Derived.Test.YtdgaaghkhkklpaaJ39363b33
import Derived.Test.YtdgaaghkhkklpaaJ4169a4aa
/- slices.Repeat of one int, as a contract (bits.Mul64, bits.Mul beneath it). -/
namespace Go.Proofs.Ytdgaaghkhkklpaa.Rpt
open Go.RowKit Rec Ints

theorem and_small (n : Nat) (hn : n ≤ 4096) : bits .and .u64 (n : Int) 4294967295 = (n : Int) := by
  have h1 := u64_and_nat n 4294967295 (by omega) (by omega)
  rw [show (4294967295 : Nat) = 2 ^ 32 - 1 from rfl, Nat.and_two_pow_sub_one_eq_mod, Nat.mod_eq_of_lt (by omega)] at h1
  exact h1
set_option maxRecDepth 100000 in
theorem mul64_any (n : Nat) (hn : n ≤ 4096) (w : World) : Calls Try.prog 72 #[.int .u64 1, .int .u64 (n : Int)] w fun e w' => e = .returned (.tuple #[.int .u64 0, .int .u64 (n : Int)]) ∧ w' = w := by
  have b1 : bits .and .u64 1 4294967295 = 1 := by decide +kernel
  have b2 := and_small n hn
  have b3 : bits .and .u64 0 4294967295 = 0 := by decide +kernel
  have d1 : (n : Int) / 4294967296 = 0 := by omega
  have w1 : IntKind.u64.wrap (n : Int) = (n : Int) := IntWalk.u64_in _ ⟨by omega, by omega⟩
  have w0 : IntKind.u64.wrap 0 = 0 := by decide +kernel
  go_enter Try.func72, Try.ntmps72
  go_wp2
  go_ret2
  exact ⟨rfl, rfl⟩
set_option maxRecDepth 100000 in
theorem mul_any (n : Nat) (hn : n ≤ 4096) (w : World) : Calls Try.prog 60 #[.int .u64 1, .int .u64 (n : Int)] w fun e w' => e = .returned (.tuple #[.int .u64 0, .int .u64 (n : Int)]) ∧ w' = w := by
  have H := Lib.hid (mul64_any n hn)
  go_enter Try.func60, Try.ntmps60
  go_wp2_with fail
  refine (H.out _).mono ?_
  rintro e w1 ⟨rfl, rfl⟩
  go_wp2
  go_ret2
  exact ⟨rfl, rfl⟩
theorem exec_copy {P : Program} {w w' : World} {o : Oper} {a : Act} {d s : Operand} {dT sT : TypeId} {D V v : Value} (hop : o.op = .call { callee := .builtin .copy, args := #[d, s], argTypes := #[dT, sT] }) (hd : a.eval d = D) (hs : a.eval s = V) (hrun : (Builtin.copy_ #[dT, sT] o.type #[D, V]).run P w = .ok v w') :
    (execOp a.eval o).run P w = .ok (.value v) w' := by
  simp only [execOp, hop, resolve, invoke, builtin, Sem.run_bind, Sem.run_pure, Result.andThen_ok, List.map_toArray, List.map_cons, List.map_nil, hd, hs, hrun]
theorem made_ints (n : Nat) : (madeCells (Value.int .i64 0).cells (n * 1)).toList = intS.flat (List.replicate n 0) := by
  rw [Sto.flat_all (S := intS) (a := (0 : Int)) (u := .int .i64 0) rfl n]
  refine Sto.made_all (by show 0 < 1; omega) (fun j hj => ?_) _
  have hj' : j < 1 := hj
  match j, hj' with
  | 0, _ => rfl
theorem size_int : (Try.prog.info? 3).map (·.size) = some intS.c := by kernel_rfl
theorem rep_cell {w : World} {b k : Nat} {x : Int} (h : ∀ j, j < k → w.cell? ⟨b, j, none⟩ = some (.int .i64 x)) : ∀ j v, (intS.flat (List.replicate k x))[j]? = some v → w.cell? ((⟨b, 0, none⟩ : Addr).add j) = some v := fun j v hv => by
  rw [Sto.flat_all (S := intS) (a := x) (u := .int .i64 x) rfl k] at hv
  have hv2 := List.mem_replicate.1 (List.mem_of_getElem? hv)
  have hj : j < k := by have := (List.getElem?_eq_some_iff.1 hv).1; rw [List.length_replicate] at this; show j < k; have h1 : k * intS.c = k := Nat.mul_one k; omega
  rw [hv2.2, Addr.add_mid, Nat.zero_add]
  exact h j hj
set_option maxHeartbeats 1600000 in
set_option maxRecDepth 100000 in
theorem repeat_any (x : Int) (b n : Nat) (hn : n ≤ 4096) (w : World) (hb : w.heap[b]? = some (.cells #[.int .i64 x] 3 (0, 0))) :
    Calls Try.prog 37 #[.slice (some ⟨b, 0, none⟩) 1 1, .int .i64 (n : Int)] w fun e w' => ∃ g, e = .returned (.slice (some ⟨g, 0, none⟩) n n) ∧ Hold intS w' w.heap.size 3 g n (List.replicate n x) ∧ Below w.heap.size w w' := by
  obtain ⟨i0, hi, hz0, hz1, hz2⟩ := info_of info_int
  have HM := Lib.hid (mul_any n hn)
  have HB := Lib.hid hb
  have d0 : decide ((n : Int) < 0) = false := decide_eq_false (by omega)
  have d1 : decide ((9223372036854775807 : Int) < (n : Int)) = false := decide_eq_false (by omega)
  have d2 : decide (9223372036854775807 < n) = false := decide_eq_false (by omega)
  have w1 : IntKind.u64.wrap (n : Int) = (n : Int) := IntWalk.u64_in _ ⟨by omega, by omega⟩
  have w2 : IntKind.i64.wrap (n : Int) = (n : Int) := IntWalk.i64_in _ ⟨by omega, by omega⟩
  have w3 : IntKind.u64.wrap 1 = 1 := by decide +kernel
  clear hb
  go_enter Try.func37, Try.ntmps37
  go_wp2_with fail
  refine (HM.out _).mono ?_
  rintro e w5 ⟨rfl, rfl⟩
  go_wp2_with (at_make; go_loud (refine wpList_make_full _ rfl _ _ 42 rfl w5.heap.size 3 i0 (.int .i64 0) 1 Try.underlying42 hi hz0 hz1 _ _ _ _ n rfl rfl rfl rfl (by rw [hz2]; omega) (by unfold maxLen; omega) (Nat.le_refl _) ?_); intro w6 hown6 hg6; rw [made_ints] at hown6; have HO6 := Lib.hid (Hold.of_own (S := intS) hown6).1; have HB6 := Lib.hid ((Below.refl w5.heap.size w5).grown hg6 (Nat.le_refl _) (fun j hj => by cases hj)); clear hown6 hg6)
  have hbl := (Array.getElem?_eq_some_iff.1 HB.out).1
  obtain ⟨g, hg⟩ : ∃ g, w5.heap.size = g := ⟨_, rfl⟩
  have HCB : Hid (w6.cell? ⟨b, 0, none⟩ = some (.int .i64 x)) := cell_of_blk ((HB6.out.block b hbl).trans HB.out) rfl
  have hMl : (List.replicate (min 1 n) x).length = Nat.min 1 n := List.length_replicate
  have hgi : goInt (List.replicate (min 1 n) x).length = .int .i64 ((min 1 n : Nat) : Int) := by rw [List.length_replicate]; rfl
  have hcp := run_copy_rec (P := Try.prog) w6 42 42 3 3 intS w5.heap.size 0 n n (some ⟨b, 0, none⟩) 1 1 (List.replicate (min 1 n) x) Try.underlying42 size_int hMl
    (fun _ => ⟨_, rfl, rep_cell (fun j hj => by have h0 : j = 0 := (by omega); subst h0; exact HCB.out)⟩)
    (fun j hj => HO6.out.some_ (by rw [List.length_replicate] at hj; have h1 : min 1 n * intS.c = min 1 n := Nat.mul_one _; have h2 : n * intS.c = n := Nat.mul_one n; omega)) (fun j _ => HO6.out.free _)
  rw [hgi] at hcp
  have hH7 := HO6.out.put (i := 0) (List.replicate (min 1 n) x) (Nat.zero_le _) (by rw [List.length_replicate]; omega)
  have hz : 0 * intS.c = 0 := Nat.zero_mul _
  rw [hz] at hH7
  have ho7 := only_setCells w6 w5.heap.size 0 (intS.flat (List.replicate (min 1 n) x))
  have HH7 := Lib.hid hH7
  have HO7 := Lib.hid ho7
  clear hH7 ho7 hz hgi
  obtain ⟨w7, hw7⟩ : ∃ w7, w6.setCells w5.heap.size 0 (intS.flat (List.replicate (min 1 n) x)) = w7 := ⟨_, rfl⟩
  rw [hw7] at hcp HH7 HO7
  clear hw7
  have HS0 : Hid (Hold intS w7 w5.heap.size 3 w5.heap.size n (List.replicate (min 1 n) x ++ List.replicate (n - min 1 n) 0)) := by
    have h1 := HH7.out
    rw [hMl, List.take_zero, List.nil_append, Nat.zero_add, List.drop_replicate] at h1
    exact h1
  have HB7 : Hid (Below w5.heap.size w5 w7) := HB6.out.trans (HO7.out.below HB6.out.size (fun k hk => Nat.le_of_eq hk.symm))
  have hm1 : min 1 n ≤ n := Nat.min_le_right 1 n
  have hm2 : 0 < n → 0 < min 1 n := fun h => by omega
  clear HO6 HB6 HCB HH7 HO7 HB HM hMl
  rw [hg] at HS0 HB7 hcp
  try rw [hg]
  rw [hcp]
  simp only [Result.andThen_ok, Oper.upon_value]
  go_wp2
  go_loopw [8] (fun v wr => ∃ k : Nat, k ≤ n ∧ (0 < n → 0 < k) ∧ v = .int .i64 (k : Int) ∧ Hid (Hold intS wr g 3 g n (List.replicate k x ++ List.replicate (n - k) 0)) ∧ Hid (Below g w5 wr)) (fun v _ => n - (intOf v).toNat)
  case atStart => exact ⟨min 1 n, hm1, hm2, rfl, HS0, HB7⟩
  case round =>
    clear HS0 HB7
    obtain ⟨k, hk, hk0, rfl, HS, HB7⟩ := hrel
    by_cases hlt : k < n
    · have hkp := hk0 (by omega)
      obtain ⟨d, hd⟩ : ∃ d, Nat.min k (n - k) = d := ⟨_, rfl⟩
      have hd' : min k (n - k) = d := hd
      have hdp : 0 < d := by omega
      have hdn : k + d ≤ n := by omega
      have a1 : (0 : Int) ≤ (k : Int) := by omega
      have a2 : (k : Int) ≤ (n : Int) := by omega
      have a3 : ¬ (n = k) := by omega
      have a4 : (k : Int) < (n : Int) := by omega
      have w4 : IntKind.i64.wrap ((k : Int) + (d : Int)) = (k : Int) + (d : Int) := IntWalk.i64_in _ ⟨by omega, by omega⟩
      go_upto_region 9 with fail
      obtain ⟨ι, hne, W, i0', h0, hW, hC⟩ := Ent.fam_sub (fun _ => True) wr trivial
      have HS1 : Hid (Hold intS (W i0') g 3 g n (List.replicate k x ++ List.replicate (n - k) 0)) := by rw [← h0]; exact HS.out.below (Below.refl _ _).drew
      have HB1 : Hid (Below g w5 (W i0')) := by rw [← h0]; exact HB7.out.drew
      clear HS HB7 hW
      refine Mix.wp_region_lex (fun w' => ∃ i, w' = W i) (by kernel_rfl) (by kernel_rfl) ⟨i0', h0⟩ ?_
      rw [h0]
      clear h0
      repeat (first | (refine Mix.lex_step rfl ?_; intro K hK; go_big_quiet_step (fail); refine Mix.lex_on hK ?_; clear hK K) | (refine Mix.lex_skip rfl ?_; simp only [Act.put, List.setIfInBounds_toArray, List.set_cons_zero, List.set_cons_succ]))
      have hLk : (List.replicate k x ++ List.replicate (n - k) 0).length = n := by simp; omega
      have hrun := run_copy_rec (P := Try.prog) (W i0') 42 42 3 3 intS g k (n - k) (n - k) (some ⟨g, 0, none⟩) k n (List.replicate d x) Try.underlying42 size_int (by rw [List.length_replicate]; exact hd.symm)
        (fun _ => ⟨_, rfl, rep_cell (fun j hj => by
          have h1 := HS1.out.cells (j := j) (a := x) (by rw [List.getElem?_append_left (by rw [List.length_replicate]; omega), List.getElem?_replicate, if_pos (by omega)]) 0 (by show 0 < 1; omega)
          have h2 : j * intS.c + 0 = j := Nat.mul_one j
          rw [h2] at h1
          exact h1)⟩)
        (fun j hj => HS1.out.some_ (by rw [List.length_replicate] at hj; have h1 : d * intS.c = d := Nat.mul_one d; have h2 : n * intS.c = n := Nat.mul_one n; omega)) (fun j _ => HS1.out.free _)
      have hput := HS1.out.put (i := k) (List.replicate d x) (by omega) (by rw [List.length_replicate]; omega)
      have hoP := only_setCells (W i0') g (k * intS.c) (intS.flat (List.replicate d x))
      have hkc : k * intS.c = k := Nat.mul_one k
      rw [hkc] at hput hoP
      have e1 : (List.replicate k x ++ List.replicate (n - k) 0).take k ++ List.replicate d x ++ (List.replicate k x ++ List.replicate (n - k) 0).drop (k + (List.replicate d x).length) = List.replicate (k + d) x ++ List.replicate (n - (k + d)) 0 := by
        rw [List.take_append_of_le_length (by simp), List.take_of_length_le (by simp), List.length_replicate, List.drop_append, List.length_replicate, List.drop_eq_nil_of_le (by simp), List.nil_append, List.drop_replicate, List.replicate_append_replicate, show k + d - k = d by omega, show n - k - d = n - (k + d) by omega]
      rw [e1] at hput
      obtain ⟨j3, hj3⟩ := hC ((W i0').setCells g k (intS.flat (List.replicate d x))) trivial
      refine Mix.lex_act rfl rfl (exec_copy rfl (by simp [Act.eval]; first | rfl | done) (by simp [Act.eval]; first | rfl | done) hrun) ⟨j3, hj3⟩ ?_
      have hgi : goInt (List.replicate d x).length = .int .i64 (d : Int) := by rw [List.length_replicate]; rfl
      rw [hgi, hj3]
      have HS2 : Hid (Hold intS (W j3) g 3 g n (List.replicate (k + d) x ++ List.replicate (n - (k + d)) 0)) := by rw [← hj3]; exact hput
      have HB2 : Hid (Below g w5 (W j3)) := by rw [← hj3]; exact HB1.out.trans (hoP.below (by have := HB1.out.size; omega) (fun i hi => Nat.le_of_eq hi.symm))
      clear hrun hput hoP e1 hj3 HS1 HB1 hgi hLk hkc
      simp only [Act.put, List.setIfInBounds_toArray, List.set_cons_zero, List.set_cons_succ]
      repeat (first | (refine Mix.lex_step rfl ?_; intro K hK; go_big_quiet_step (fail); refine Mix.lex_on hK ?_; clear hK K) | (refine Mix.lex_skip rfl ?_; simp only [Act.put, List.setIfInBounds_toArray, List.set_cons_zero, List.set_cons_succ]))
      refine Mix.lex_nil ?_
      generalize W j3 = w9 at HS2 HB2 ⊢
      clear hC
      go_wp2
      go_roundw
      case rel => exact ⟨k + d, hdn, fun _ => by omega, by go_num, HS2, HB2⟩
      case measure => simp [intOf]; omega
    · have hkn : k = n := by omega
      subst hkn
      go_wp2
      go_ret
      have h1 := HS.out
      rw [Nat.sub_self, List.replicate_zero, List.append_nil] at h1
      exact ⟨g, rfl, by rw [hg]; exact h1, by rw [hg]; exact HB7.out⟩
end Go.Proofs.Ytdgaaghkhkklpaa.Rpt

/- Layer 15 (graph), the landed program: Parts, as a contract; all of its functions. -/
namespace Go.Proofs.Ytdgaaghkhkklpaa.Gf
open Go.RowKit Rec Ints Ge

set_option maxHeartbeats 1600000 in
set_option maxRecDepth 100000 in
theorem parts_any (N : Nt) (A A' : Option Addr) (n c m c' : Nat) (w : World) (h : NAt w w.heap.size N A n c A' m c') (hn : n ≤ 1048576) (hm : m ≤ 1048576) :
    Calls Try.prog 16 #[.agg #[.int .i64 N.ver, .slice A n c, .slice A' m c']] w fun e w' => ∃ v, e = .returned (.tuple #[v, .int .i64 ((check N : Nat) : Int)]) ∧ InTo w.heap.size w (partsE N) v w' := by
  have HB := Lib.hid (Bx.start h)
  have hb1 := HB.out.lt
  have HN1 : Hid (NAt (w.alloc (.cells #[.int .i64 N.ver, .slice A n c, .slice A' m c'] 25)) (w.alloc (.cells #[.int .i64 N.ver, .slice A n c, .slice A' m c'] 25)).heap.size N A n c A' m c') := HB.out.at_.more (Nat.le_of_lt hb1)
  have HV := Lib.hid (fun (w1 : World) (hw : NAt w1 w1.heap.size N A n c A' m c') => check_any N A A' n c m c' w1 hw hn hm)
  by_cases hc : check N = 0
  case neg =>
    have HC := Lib.hid hc
    have HP : Hid (partsE N = []) := by unfold Hid partsE; rw [if_neg hc]
    have he : (((check N : Nat) : Int) != 0) = true := by
      rcases check_le (N := N) with h0 | h0 | h0
      · exact absurd h0 HC.out
      · rw [h0]; rfl
      · rw [h0]; rfl
    obtain ⟨ce, hce⟩ : ∃ ce : Int, ((check N : Nat) : Int) = ce := ⟨_, rfl⟩
    rw [hce] at HV he ⊢
    clear h hb1 hce hc
    go_enter Try.func16, Try.ntmps16
    go_wp2_with fail
    refine (HV.out _ HN1.out).mono ?_
    rintro e3 w3 ⟨rfl, hb3⟩
    have HB3 := Lib.hid (HB.out.bel.trans (hb3.mono HB.out.bel.size))
    clear hb3
    go_wp2
    go_ret2
    refine ⟨_, rfl, ?_⟩
    rw [HP.out]
    exact InTo.of_own (n := 0) (e := 3) (World.ownsRow_nil _ _ _ _) HB3.out
  case pos =>
    have hv := valid_of hc
    have HVV := Lib.hid hv
    have hn9 : n ≤ 4096 := by have := hv.ns; have := h.st.len; omega
    have HLN : Hid (N.st.length = n) := h.st.len
    have HCC := Lib.hid hc
    have HPT : Hid (partsE N = nums (partsT N)) := by unfold Hid partsE; rw [if_pos hc]
    have HNB := Lib.hid (fun (w1 : World) (hw : NAt w1 w1.heap.size N A n c A' m c') => neighbors_any N A A' n c m c' w1 hw hc)
    rw [hc] at HV ⊢
    clear hv hc h
    obtain ⟨ver, hver⟩ : ∃ ver, N.ver = ver := ⟨_, rfl⟩
    rw [hver] at HB HN1 HV HNB ⊢
    have HVR := Lib.hid hver
    go_enter Try.func16, Try.ntmps16
    go_wp2_with fail
    refine (HV.out _ HN1.out).mono ?_
    rintro e3 w3 ⟨rfl, hb3⟩
    have HBA := Lib.hid (HB.out.below hb3)
    clear hb3 HB HN1 hb1 hver
    generalize w.alloc (.cells #[.int .i64 ver, .slice A n c, .slice A' m c'] 25) = wZ at *
    have z0 : w3.cell? ⟨w.heap.size, 0, none⟩ = some (.int .i64 ver) := by have h9 : _ = some (Value.int .i64 N.ver) := cell_of_blk (j := 0) HBA.out.blk rfl; rw [HVR.out] at h9; exact h9
    have z1 : w3.cell? ⟨w.heap.size, 1, none⟩ = some (.slice A n c) := cell_of_blk HBA.out.blk rfl
    have z2 : w3.cell? ⟨w.heap.size, 2, none⟩ = some (.slice A' m c') := cell_of_blk HBA.out.blk rfl
    go_wp2_with fail
    refine (HNB.out w3 (HBA.out.at_.more (Nat.le_of_lt HBA.out.lt))).mono ?_
    rintro e4 w4 ⟨tb, base, V, rfl, htab, htw, hb4⟩
    have HB4 := Lib.hid (HBA.out.below hb4)
    have HT4 := Lib.hid htab
    have hb5 := (Below.refl w4.heap.size w4).alloc (Nat.le_refl _) (.cells #[.int .i64 (-1)] 3)
    have HT5 := Lib.hid (htab.below hb5)
    have HB5 := Lib.hid (HB4.out.below hb5)
    have HK5 := Lib.hid (heap_alloc_new w4 (.cells #[.int .i64 (-1)] 3))
    have y1 : (w4.alloc (.cells #[.int .i64 (-1)] 3)).cell? ⟨w.heap.size, 1, none⟩ = some (.slice A n c) := cell_of_blk HB5.out.blk rfl
    have htl : tb < w4.heap.size := htab.lt
    have HS5 : Hid ((w4.alloc (.cells #[.int .i64 (-1)] 3)).heap.size = w4.heap.size + 1) := by unfold Hid; simp
    clear htab htw hb4 hb5 z0 z1 z2
    go_wp2_with fail
    generalize w4.alloc (.cells #[.int .i64 (-1)] 3) = w5 at HT5 HB5 HK5 y1 HS5 ⊢
    refine (Rpt.repeat_any (-1) w4.heap.size n hn9 w5 HK5.out).mono ?_
    rintro e6 w6 ⟨pg, rfl, hh6, hb6⟩
    have hpg : w4.heap.size < pg := by have h1 := hh6.le; have h2 := HS5.out; omega
    have HT6 := Lib.hid (HT5.out.below hb6)
    have HH6 := Lib.hid hh6
    have HB6 := Lib.hid (HB5.out.bel.trans (hb6.mono HB5.out.bel.size))
    have HSEP : Hid (pg ≠ tb ∧ ∀ (u : Nat) (v : Value), V[u]? = some v → v.ownBlock ≠ some pg) := ⟨by omega, fun u v hv e => by
      have h1 := ((HT4.out.own u v hv).1.lt pg e).2
      omega⟩
    have HPM : Hid (Pm N 0 (List.replicate n (-1))) := by have h1 := Pm.start (N := N); rw [HLN.out] at h1; exact h1
    have HWG : Hid (w.heap.size ≤ pg) := by have := HB4.out.lt; unfold Hid; omega
    have HW5 : Hid (w5.heap.size ≤ pg) := hh6.le
    obtain ⟨bp, hbp⟩ : ∃ bp, w5.heap.size = bp := ⟨_, rfl⟩
    rw [hbp] at HH6 HW5
    have HWB : Hid (w.heap.size ≤ bp) := by have := HB5.out.bel.size; unfold Hid; omega
    clear hh6 hb6 HT4 HB4 HT5 HB5 HK5 HBA HNB HV y1 HS5 hbp
    go_wp2
    go_loopw [7, 22] (fun _ v22 wr => ∃ (k : Nat) (xs : List Int), v22 = .int .i64 (k : Int) ∧ k ≤ n ∧ Hid (Hold intS wr bp 3 pg n xs) ∧ Hid (Pm N k xs) ∧ Hid (Tab wr base tb n V (nxt N.lk)) ∧ Hid (Below w.heap.size w wr)) (fun _ v22 _ => n - (intOf v22).toNat)
    case atStart => exact ⟨0, _, rfl, Nat.zero_le _, HH6, HPM, HT6, HB6⟩
    case round =>
      clear HH6 HPM HT6 HB6
      obtain ⟨k, xs, rfl, hk, HH, HPM, HT, HBL⟩ := hrel
      by_cases hlt : k < n
      · obtain ⟨x, hx⟩ : ∃ x, xs[k]? = some x := ⟨_, List.getElem?_eq_getElem (by rw [HPM.out.len, HLN.out]; exact hlt)⟩
        have cx := hold_cell HH.out hx
        have HX := Lib.hid hx
        have a1 : (0 : Int) ≤ (k : Int) := by omega
        have a2 : (k : Int) < (n : Int) := by omega
        clear hx
        cases hd : (x == (-1)) with
        | false =>
          have HPN : Hid (Pm N (k + 1) xs) := HPM.out.skip (by rw [HLN.out]; exact hlt) (fun e => by rw [HX.out] at e; injection e with e; exact beq_eq_false_iff_ne.1 hd e)
          go_wp2
          go_roundw
          case rel => exact ⟨k + 1, xs, by go_num, by omega, HH, HPN, HT, HBL⟩
          case measure => simp [intOf]; omega
        | true =>
          have hxe : x = -1 := beq_iff_eq.1 hd
          subst hxe
          go_wp2_with fail
          refine (spread_any N HVV.out k n n tb base pg bp V xs wr HLN.out HT.out HH.out HSEP.out HPM.out hlt HX.out).mono ?_
          rintro e8 w8 ⟨rfl, xs8, hh8, hpm8, ho8⟩
          have HH8 := Lib.hid hh8
          have HP8 := Lib.hid hpm8
          have HT8 := Lib.hid (HT.out.keep ho8 (show ¬ tb = pg from fun e => HSEP.out.1 e.symm) (fun i _ _ ⟨a, va, hva, hvi⟩ e => HSEP.out.2 a va hva (by rw [hvi]; exact congrArg some e)))
          have HB8 := Lib.hid (HBL.out.trans (ho8.below HBL.out.size (fun i hi => by have := HWG.out; omega)))
          clear hh8 hpm8 ho8 cx
          go_wp2
          go_roundw
          case rel => exact ⟨k + 1, xs8, by go_num, by omega, HH8, HP8, HT8, HB8⟩
          case measure => simp [intOf]; omega
      · have hkn : k = n := by omega
        subst hkn
        have hxs : xs = nums (partsT N) := by have h1 := HPM.out; rw [← HLN.out] at h1; exact h1.all HVV.out
        have HXL : Hid (xs.length = k) := by unfold Hid; rw [HPM.out.len, HLN.out]
        have HXS := Lib.hid hxs
        clear hxs
        go_wp2
        go_ret2
        refine ⟨_, rfl, ?_⟩
        rw [HPT.out, ← HXS.out]
        have h1 := HH.out.own'
        rw [HXL.out] at h1
        exact InTo.of_own (n := k) (e := 3) (ownr_base h1 HWB.out) HBL.out
/-- The program's functions do what they must. -/
theorem oks : Oks where
  check N A A' n c m c' w h _ hn hm := check_any N A A' n c m c' w h hn hm
  put N A A' n c m c' w h _ hn hm := put_any N A A' n c m c' w h hn hm
  take A n c b w hr hx hnil hcap hc hn := take_any A n c b w hr hx hnil hcap hc hn
  near N A A' n c m c' s w h _ hc _ := near_any N A A' n c m c' s w h hc
  parts N A A' n c m c' w h _ hn hm := parts_any N A A' n c m c' w h hn hm
end Go.Proofs.Ytdgaaghkhkklpaa.Gf
