/- Lemmas that the proof stands on, in build order: ChL Shut Open OpenS. -/
import Derived.WalkKit
import Derived.ProofKit
import Derived.OpenShut
import Derived.Carry
import Derived.JoinedCond
import Derived.Deep.Slices
import Derived.Deep.Fields
import Derived.Test.YtppbpmmfcoblmaaDoorJ1ef7bc1
import Derived.Test.YtppbpmmfcoblmaaDoorJ24e72b8
import Derived.Test.YtppbpmmfcoblmaaDoorJ379203a6
/- Layer 11 (challenge): few; the example of the laws. -/
namespace Go.Proofs.YtppbpmmfcoblmaaDoor.Chl
open Go.RowKit Slc Var Fld Frm Sha Hmc Rg Tok

set_option maxHeartbeats 1600000 in
set_option maxRecDepth 100000 in
theorem few_any (keep : Int) (A A' : Option Addr) (n c n' c' B : Nat) (K : List Kp) (L : List Part) (w : World) (h : KRow w B A n K) (hB : B ≤ w.heap.size) (hn : n ≤ maxLen) (hp : Prs w w.heap.size A' n' L) (hn' : n' ≤ 1000) :
    Calls Tryd.prog 7 #[.agg #[.int .i64 keep, .slice A n c], .slice A' n' c'] w fun x w' => (∃ b, x = .returned (.bool b) ∧ (b = true → n ≤ 30 ∧ (∀ k ∈ K, k.p.n ≤ 100) ∧ ∀ p ∈ L, p.n ≤ 500)) ∧ Below w.heap.size w w' := by
  have H := Lib.hid h
  have HP := Lib.hid hp
  have HBB := Lib.hid hB
  have HLN := Lib.hid h.len
  have HLP := Lib.hid hp.len
  have HB0 : Hid (Below w.heap.size w (w.alloc (.cells #[.int .i64 keep, .slice A n c] 24))) := (Below.refl _ _).alloc (Nat.le_refl _) _
  have HS1 : Hid ((w.alloc (.cells #[.int .i64 keep, .slice A n c] 24)).heap.size = w.heap.size + 1) := by unfold Hid; simp
  have c1 : (w.alloc (.cells #[.int .i64 keep, .slice A n c] 24)).cell? ⟨w.heap.size, 1, none⟩ = some (.slice A n c) := cell_of_blk (heap_alloc_new w _) rfl
  have HC := Lib.hid c1
  have HK1 := Lib.hid (H.out.below (HB0.out.mono HBB.out))
  clear h hB hp
  go_enter Tryd.func7, Tryd.ntmps7
  go_wp2_with fail
  generalize w.alloc (.cells #[.int .i64 keep, .slice A n c] 24) = w1 at *
  clear c1
  go_loopw [6, 12] (fun _ i wr => ∃ t : Nat, t ≤ n ∧ i = .int .i64 (t : Int) ∧ Hid (∀ j k, j < t → K[j]? = some k → k.p.n ≤ 100) ∧ Hid (Below w1.heap.size w1 wr)) (fun _ i _ => n - (intOf i).toNat)
  case atStart => exact ⟨0, Nat.zero_le _, rfl, Lib.hid (fun j k h => absurd h (by omega)), Lib.hid (Below.refl _ _)⟩
  case round =>
    obtain ⟨t, ht, rfl, HG, HB⟩ := hrel
    have HBW : Hid (Below w.heap.size w wr) := HB0.out.trans (HB.out.mono HB0.out.size)
    have c1 := (HB.out.cell (p := ⟨w.heap.size, 1, none⟩) (by have := HS1.out; show w.heap.size < _; omega)).trans HC.out
    by_cases hlt : t < n
    · obtain ⟨b, o, k, rfl, hbb, hk, hok, k0, k1⟩ := (HK1.out.below (HB.out.mono (by have := HBB.out; have := HS1.out; omega))).at hlt
      have hlt' : (t : Int) < (n : Int) := by omega
      have HKA := Lib.hid hk
      clear hk hok
      obtain ⟨e, pA, pn, pc, xs⟩ := k
      simp only at k0 k1
      have HBA : Hid (Below w.heap.size w (wr.alloc (.cells #[.int .i64 e, .slice pA pn pc] 57))) := HBW.out.alloc HBW.out.size _
      have HBR : Hid (Below w1.heap.size w1 (wr.alloc (.cells #[.int .i64 e, .slice pA pn pc] 57))) := HB.out.alloc HB.out.size _
      by_cases q0 : 100 < pn
      · have hd : decide ((100 : Int) < (pn : Int)) = true := by simp; omega
        go_wp2
        go_ret
        exact ⟨⟨false, rfl, fun h => by cases h⟩, HBA.out⟩
      · have hd : decide ((100 : Int) < (pn : Int)) = false := by simp; omega
        have m1 : IntKind.i64.wrap ((t : Int) + 1) = (t : Int) + 1 := IntWalk.i64_in _ ⟨by omega, by have h1 : n ≤ maxLen := hn; unfold maxLen at h1; omega⟩
        have HG2 : Hid (∀ j k, j < t + 1 → K[j]? = some k → k.p.n ≤ 100) := fun j k hj hk => by
          by_cases hjt : j < t
          · exact HG.out j k hjt hk
          · obtain rfl : j = t := by omega
            rw [HKA.out] at hk
            injection hk with hk
            subst hk
            simp only
            omega
        go_wp2
        go_roundw
        case rel => exact ⟨t + 1, by omega, by go_num, HG2, HBR⟩
        case measure => simp [intOf]; omega
    · obtain rfl : t = n := by omega
      have hall : Hid (∀ k ∈ K, k.p.n ≤ 100) := fun k hk => by
        obtain ⟨j, hj⟩ := List.getElem?_of_mem hk
        exact HG.out j k (by have h1 := (List.getElem?_eq_some_iff.1 hj).1; have h2 := HLN.out; omega) hj
      have HBL : Hid (Below w.heap.size w wr) := HBW
      have HCC : Hid (wr.cell? ⟨w.heap.size, 1, none⟩ = some (.slice A t c)) := c1
      have HPW := Lib.hid (HP.out.below HBW.out)
      clear HG HB HK1 HC HP
      go_wp2_with fail
      clear c1
      go_loopw [8, 23] (fun _ i wx => ∃ u : Nat, u ≤ n' ∧ i = .int .i64 (u : Int) ∧ Hid (∀ j p, j < u → L[j]? = some p → p.n ≤ 500) ∧ Hid (wx = wr)) (fun _ i _ => n' - (intOf i).toNat)
      case atStart => exact ⟨0, Nat.zero_le _, rfl, Lib.hid (fun j k h => absurd h (by omega)), Lib.hid rfl⟩
      case round =>
        obtain ⟨u, hu, rfl, HGP, HWX⟩ := hrel
        have hwx := HWX.out
        subst hwx
        clear HWX
        by_cases hlt : u < n'
        · obtain ⟨b, o, e1, hbb, hcell⟩ := HPW.out.at_ (by omega)
          subst e1
          have k0 := hcell u (by have := HLP.out; omega)
          obtain ⟨p, hpe⟩ : ∃ p, p = L[u]'(by have := HLP.out; omega) := ⟨_, rfl⟩
          have HPE : Hid (L[u]? = some p) := by unfold Hid; rw [hpe]; exact List.getElem?_eq_getElem _
          rw [← hpe] at k0
          have hlt' : (u : Int) < (n' : Int) := by omega
          obtain ⟨pA, pn, pc, xs⟩ := p
          simp only [Part.v] at k0
          clear hcell hpe
          by_cases q0 : 500 < pn
          · have hd : decide ((500 : Int) < (pn : Int)) = true := by simp; omega
            go_wp2
            go_ret
            exact ⟨⟨false, rfl, fun h => by cases h⟩, HBL.out⟩
          · have hd : decide ((500 : Int) < (pn : Int)) = false := by simp; omega
            have m1 : IntKind.i64.wrap ((u : Int) + 1) = (u : Int) + 1 := IntWalk.i64_in _ ⟨by omega, by omega⟩
            have HG2 : Hid (∀ j p, j < u + 1 → L[j]? = some p → p.n ≤ 500) := fun j k hj hk => by
              by_cases hjt : j < u
              · exact HGP.out j k hjt hk
              · obtain rfl : j = u := by omega
                rw [HPE.out] at hk
                injection hk with hk
                subst hk
                simp only
                omega
            go_wp2
            go_roundw
            case rel => exact ⟨u + 1, by omega, by go_num, HG2, by first | exact trivial | exact Lib.hid rfl⟩
            case measure => simp [intOf]; omega
        · obtain rfl : u = n' := by omega
          have hallp : Hid (∀ p ∈ L, p.n ≤ 500) := fun p hp => by
            obtain ⟨j, hj⟩ := List.getElem?_of_mem hp
            exact HGP.out j p (by have h1 := (List.getElem?_eq_some_iff.1 hj).1; have h2 := HLP.out; omega) hj
          have c1 := HCC.out
          go_wp2
          go_ret
          exact ⟨⟨_, rfl, fun h => ⟨by simp at h; omega, hall.out, hallp.out⟩⟩, HBL.out⟩

theorem made16 : madeCells (Value.int .u8 0).cells 16 = (bv (List.replicate 16 0)).toArray := by kernel_rfl
theorem ex_may {zs : List Int} (h : zs.length = 16) : may zs 5 := ⟨h, by omega, by omega⟩
theorem ex_len (k q : List Int) : (frame 6 (cont k q 5)).length = 41 := by
  have e : (cont k q 5).length = 34 := by
    have h : (num 5).length = 1 := by decide +kernel
    have h2 : (num 32).length = 1 := by decide +kernel
    unfold cont
    rw [List.length_append, List.length_append, ansT_len, h, h2]
  rw [frame_len, e]
  have h3 : (put 34).length = 1 := by decide +kernel
  omega
theorem ex_kind (k q : List Int) : (frame 6 (cont k q 5)).getD 1 0 = 6 := by unfold frame head; simp

set_option maxHeartbeats 1600000 in
set_option maxRecDepth 100000 in
theorem awake_any (w : World) (hT : Lay w) : Calls Tryd.prog 6 #[] w fun x w' => x = .returned (.bool true) ∧ Below w.heap.size w w' := by
  obtain ⟨i0, hi, hz0, hz1, hz2⟩ := parts_of info8
  have HT := Lib.hid hT
  clear hT
  have kmk : ∀ w : World, (Instr.makeSlice 25 (.int .i64 16) (.int .i64 16)).run Tryd.prog w = .ok (.slice (some ⟨w.heap.size, 0, none⟩) 16 16) (w.alloc (.cells (bv (List.replicate 16 0)).toArray 5)) := fun w =>
    (run_make w 25 5 i0 (.int .u8 0) Tryd.underlying25 hi hz0 .i64 .i64 16 16 (by omega) (by omega) (by rw [hz2]; omega) (by omega)).trans (by rw [hz1, show (Int.toNat 16) * 1 = 16 by rfl, made16]; rfl)
  obtain ⟨zs, hzs⟩ : ∃ zs, zs = List.replicate 16 (0 : Int) := ⟨_, rfl⟩
  rw [← hzs] at kmk
  have HZL : Hid (zs.length = 16) := by unfold Hid; rw [hzs]; rfl
  have zrow : Hid (Row .u8 (w.alloc (.cells (bv zs).toArray 5)) (w.heap.size + 1) (some ⟨w.heap.size, 0, none⟩) 16 zs) := by
    refine ⟨HZL.out, fun _ => ⟨w.heap.size, 0, rfl, by omega, fun j hj => ?_⟩⟩
    rw [Nat.zero_add]
    refine cell_of_blk (heap_alloc_new w _) ?_
    have hl : zs.length = 16 := HZL.out
    rw [List.getElem?_toArray]
    simp only [bv, List.getElem?_map, List.getElem?_eq_getElem (show j < zs.length by omega), Option.map_some, List.getD, Option.getD_some]
  have HZB : Hid (∀ x ∈ zs, 0 ≤ x ∧ x ≤ 255) := fun x hx => by
    rw [hzs] at hx
    rw [(List.mem_replicate.1 hx).2]
    omega
  clear hzs
  go_enter Tryd.func6, Tryd.ntmps6
  go_wp2_with fail
  have hb1 : Below w.heap.size w (w.alloc (.cells (bv zs).toArray 5)) := (Below.refl _ _).alloc (Nat.le_refl _) _
  have HB1 := Lib.hid hb1
  have HS1 : Hid ((w.alloc (.cells (bv zs).toArray 5)).heap.size = w.heap.size + 1) := by unfold Hid; simp
  have HAN := Lib.hid (answer_any none (some ⟨w.heap.size, 0, none⟩) 0 0 16 16 [] zs 5 (w.alloc (.cells (bv zs).toArray 5)) Row.none_ (by omega) (by omega) (by simp) (by rw [HS1.out]; exact zrow.out) (fun h => by cases h) (by omega) (by omega) HZB.out (HT.out.below hb1 HT.out.tab.1))
  clear hb1
  refine HAN.out.mono ?_
  rintro e2 w2 ⟨A2, n2, c2, rfl, hr2, hnil2, hnc2, hcm2, hb2⟩
  have hyes : answer [] zs 5 = (frame 6 (cont [] zs 5), 0) := by unfold answer; rw [if_pos (ex_may HZL.out)]
  rw [hyes] at hr2 ⊢
  simp only at hr2
  have hn2 : n2 = 41 := by rw [← hr2.1, ex_len]
  subst hn2
  obtain ⟨b1, o1, e1, h2, h3⟩ := hr2.2 (by omega)
  subst e1
  have k1 := h3 1 (by omega)
  rw [ex_kind] at k1
  have HB2 := Lib.hid (HB1.out.trans (hb2.mono HB1.out.size))
  clear h3 hr2 hyes hnil2 hb2 HAN
  go_wp2
  go_ret
  exact ⟨rfl, HB2.out⟩
end Go.Proofs.YtppbpmmfcoblmaaDoor.Chl

/- The last step of a law's row, over any program: a call that returned true and left all old memory as it was meets 'true; the input reads as it did'. -/
namespace Go.Proofs.YtppbpmmfcoblmaaDoor
open Go.ChangeShapes Go.WideShapes Go.ChangeAt Go.RowKit

section
variable {H : Type} {enc : TypeId × Value → H} {P : Program} {W W' : World}

theorem trodAll_stays (hl : laidOutB P = true) (hb : Below W.heap.size W W') : ∀ {ts : List TypeId} {vs : List Value} {ds : List (DataW H)} {ps : List MemPlace},
    ts.all (fun t => P.readableRec t && decide (t < P.types.size)) = true → DataW.TrodAll enc P W 0 (fun _ => true) true ts vs ds ps → (∀ x ∈ ps, x.block < W.heap.size) →
    DataW.TrodAll enc P W' 0 (fun b => decide (b < W.heap.size)) true ts vs ds ps
  | [], _, _, _, _, h, _ => by
    obtain ⟨rfl, rfl, rfl⟩ := trodAll_nil h
    exact trodAll_mk0
  | t :: ts, _, _, _, ht, h, hp => by
    obtain ⟨v, vs, d, ds, a, b, rfl, rfl, rfl, h1, h2⟩ := trodAll_cons h
    simp only [List.all_cons, Bool.and_eq_true, decide_eq_true_eq] at ht
    exact trodAll_cons_mk (Below.trod hl ht.1.1 ht.1.2 h1 hb (fun x hx => hp x (List.mem_append_left _ hx)))
      (trodAll_stays hl hb (by simpa using ht.2) h2 (fun x hx => hp x (List.mem_append_right _ hx)))

/-- A law's post: true came back, old memory is as it was. -/
theorem law_post {f : Func} {s : ChangeSpec} {tb : TypeId} {args : Array Value} {ds : List (DataW H)} {before : List MemPlace}
    (hl : laidOutB P = true) (hts : f.params.toList.all (fun t => P.readableRec t && decide (t < P.types.size)) = true) (hr : f.resultTypes = #[tb]) (htb : P.underlying tb = some .bool) (hv : s.vars = [])
    (hW : DataW.Whole enc P f.params.toList s.vars false W args.toList ds [] before) (hfn : s.fn H ds = { results := [.lit (.bool true)], args := ds }) (hb : Below W.heap.size W W') :
    s.post enc P f false true false false W args (.bool true) W' := by
  have hW' := hW
  obtain ⟨p, q, hA, hV, rfl, _, _⟩ := hW
  rw [hv] at hV
  obtain ⟨_, rfl⟩ := trodVars_none hV
  refine ⟨ds, [], p ++ [], [], p, [], hW', ?_, ?_, ?_, hb.frame _, fun h => by cases h⟩
  · rw [List.append_nil, hfn, hr]
    exact trodAll_cons_mk (shut_bool htb _) trodAll_mk0
  · rw [List.append_nil, hfn]
    exact trodAll_stays hl hb hts hA (fun x hx => hW'.lt x (List.mem_append_left _ hx))
  · rw [List.append_nil, hfn, hv]
    rfl
end

/-- What opening a slice of integers gives, as 'Row'. -/
theorem row_of_open {k : IntKind} {w : World} {a : Addr} {len : Nat} {zs : List Int} (hl : len ≤ zs.length) (hc : ∀ i, i < zs.length → w.cell? (a.add i) = some (.int k (zs.getD i 0))) : Row k w w.heap.size (some a) len (zs.take len) := by
  refine ⟨by simp; omega, fun hn => ?_⟩
  obtain ⟨b, o, rfl, hcell⟩ := ints_at hc (by omega)
  refine ⟨b, o, rfl, World.block_lt_of_cell? w _ (hcell 0 (by omega)), fun j hj => ?_⟩
  rw [hcell j (by omega)]
  simp [List.getD, hj]
end Go.Proofs.YtppbpmmfcoblmaaDoor

/- A law's arguments opened, over any program: a slice of integers as 'Row', an array of integers by value. -/
namespace Go.Proofs.YtppbpmmfcoblmaaDoor
open Go.ChangeShapes Go.WideShapes Go.ChangeAt Go.RowKit

section
variable {H : Type} {enc : TypeId × Value → H} {P : Program} {W : World} {base : Nat}

/-- A slice of integers that came in. -/
theorem open_row {t e : TypeId} {k : IntKind} {v : Value} {d : DataW H} {ps : List MemPlace} (ht : P.underlying t = some (.slice e)) (he : P.underlying e = some (.int k)) (hc : P.cellsOf e = 1)
    (hv : Value.okWide P W .any base t v) (h : DataW.Trod enc P W 0 (fun _ => true) true t v d ps) :
    ∃ A n c xs, v = .slice A n c ∧ Row k W W.heap.size A n xs ∧ (A = none → c = 0) ∧ ∀ x ∈ xs, (Lit.int k x).wf = true := by
  obtain ⟨a0, len, cap, rfl⟩ := okWide_slice ht hv
  obtain ⟨fuel, hf⟩ := h
  rcases open_ints ht he hc hf with ⟨hcs, hx⟩ | ⟨a, len', cap', zs, hcs, _, hl, hm, hz, hx, hcell, hwz⟩
  · simp [Value.cells] at hcs
    obtain ⟨rfl, rfl, rfl⟩ := hcs
    exact ⟨none, 0, 0, [], rfl, Row.none_, fun _ => rfl, by simp⟩
  · simp [Value.cells] at hcs
    obtain ⟨rfl, rfl, rfl⟩ := hcs
    exact ⟨some a, len, cap, zs.take len, rfl, row_of_open (by simp at hz; omega) hcell, (fun h => by cases h), fun x hx => hwz x (List.mem_of_mem_take hx)⟩

/-- The same, with its capacity. -/
theorem open_row2 {t e : TypeId} {k : IntKind} {v : Value} {d : DataW H} {ps : List MemPlace} (ht : P.underlying t = some (.slice e)) (he : P.underlying e = some (.int k)) (hc : P.cellsOf e = 1)
    (hv : Value.okWide P W .any base t v) (h : DataW.Trod enc P W 0 (fun _ => true) true t v d ps) :
    ∃ A n c xs, v = .slice A n c ∧ Row k W W.heap.size A n xs ∧ (A = none → c = 0) ∧ n ≤ c ∧ c ≤ maxLen ∧ ∀ x ∈ xs, (Lit.int k x).wf = true := by
  obtain ⟨a0, len, cap, rfl⟩ := okWide_slice ht hv
  obtain ⟨fuel, hf⟩ := h
  rcases open_ints ht he hc hf with ⟨hcs, hx⟩ | ⟨a, len', cap', zs, hcs, _, hl, hm, hz, hx, hcell, hwz⟩
  · simp [Value.cells] at hcs
    obtain ⟨rfl, rfl, rfl⟩ := hcs
    exact ⟨none, 0, 0, [], rfl, Row.none_, fun _ => rfl, Nat.le_refl _, Nat.zero_le _, by simp⟩
  · simp [Value.cells] at hcs
    obtain ⟨rfl, rfl, rfl⟩ := hcs
    exact ⟨some a, len, cap, zs.take len, rfl, row_of_open (by simp at hz; omega) hcell, (fun h => by cases h), hl, hm, fun x hx => hwz x (List.mem_of_mem_take hx)⟩

/-- The same, with the address's form. -/
theorem open_row3 {t e : TypeId} {k : IntKind} {v : Value} {d : DataW H} {ps : List MemPlace} (ht : P.underlying t = some (.slice e)) (he : P.underlying e = some (.int k)) (hc : P.cellsOf e = 1)
    (hv : Value.okWide P W .any base t v) (h : DataW.Trod enc P W 0 (fun _ => true) true t v d ps) :
    ∃ A n c xs, v = .slice A n c ∧ Row k W W.heap.size A n xs ∧ (A = none → c = 0) ∧ n ≤ c ∧ c ≤ maxLen ∧ (0 < c → ∃ b o, A = some ⟨b, o, none⟩) ∧ ∀ x ∈ xs, (Lit.int k x).wf = true := by
  obtain ⟨a0, len, cap, rfl⟩ := okWide_slice ht hv
  obtain ⟨fuel, hf⟩ := h
  rcases open_ints ht he hc hf with ⟨hcs, hx⟩ | ⟨a, len', cap', zs, hcs, _, hl, hm, hz, hx, hcell, hwz⟩
  · simp [Value.cells] at hcs
    obtain ⟨rfl, rfl, rfl⟩ := hcs
    exact ⟨none, 0, 0, [], rfl, Row.none_, fun _ => rfl, Nat.le_refl _, Nat.zero_le _, fun h => absurd h (by omega), by simp⟩
  · simp [Value.cells] at hcs
    obtain ⟨rfl, rfl, rfl⟩ := hcs
    refine ⟨some a, len, cap, zs.take len, rfl, row_of_open (by simp at hz; omega) hcell, (fun h => by cases h), hl, hm, fun h0 => ?_, fun x hx => hwz x (List.mem_of_mem_take hx)⟩
    obtain ⟨b, o, e, -⟩ := ints_at hcell (by simp at hz; omega)
    exact ⟨b, o, by rw [e]⟩

theorem mapM_mem {α β : Type} {f : α → Option β} : ∀ {L : List α} {ys : List β}, L.mapM f = some ys → ∀ i ∈ L, ∃ y, f i = some y
  | [], _, _, i, hi => by simp at hi
  | a :: L, ys, h, i, hi => by
    rw [List.mapM_cons] at h
    simp only [bind, Option.bind_eq_some_iff, pure, Option.some.injEq] at h
    obtain ⟨y, hy, ys', hys, _⟩ := h
    rcases List.mem_cons.1 hi with rfl | hi
    · exact ⟨y, hy⟩
    · exact mapM_mem hys i hi

/-- An array of integers that came in, by value. -/
theorem open_arr {t e : TypeId} {k : IntKind} {m : Nat} {v : Value} {d : DataW H} {ps : List MemPlace} (ht : P.underlying t = some (.array m e)) (he : P.underlying e = some (.int k)) (hc : P.cellsOf e = 1) (hct : P.cellsOf t = m)
    (hv : Value.okWide P W .any base t v) (h : DataW.Trod enc P W 0 (fun _ => true) true t v d ps) :
    ∃ xs : List Int, v = .agg (xs.map (Value.int k)).toArray ∧ xs.length = m ∧ ∀ x ∈ xs, (Lit.int k x).wf = true := by
  simp only [Value.okWide, ht] at hv
  obtain ⟨cs, rfl, hsz, _⟩ := hv
  rw [hct] at hsz
  obtain ⟨fuel, hf⟩ := h
  cases fuel with
  | zero => simp [DataW.trod] at hf
  | succ q =>
    rw [DataW.trod_step] at hf
    unfold DataW.trodStep at hf
    simp only [ht, Value.cells] at hf
    rw [if_pos (by rw [hct]; simpa using hsz)] at hf
    simp only [Option.map_eq_some_iff] at hf
    obtain ⟨ys, hy, _⟩ := hf
    have hall : ∀ i, i < m → ∃ a, cs.toList[i]? = some (.int k a) ∧ (Lit.int k a).wf = true := fun i hi => by
      obtain ⟨y, h1⟩ := mapM_mem hy i (by simpa using hi)
      obtain ⟨a, h2, _, h3⟩ := DataW.trod_int he h1
      refine ⟨a, ?_, h3⟩
      rw [hc, Nat.mul_one] at h2
      have h4 : i < cs.toList.length := by simpa [hsz] using hi
      rw [List.drop_eq_getElem_cons h4] at h2
      simp only [List.take_succ_cons, List.take_zero, List.cons.injEq, and_true] at h2
      rw [List.getElem?_eq_getElem h4, h2]
    have hl : cs.toList.length = m := by simpa using hsz
    have hxs : ∀ (L : List Value) (m : Nat), L.length = m → (∀ i, i < m → ∃ a, L[i]? = some (.int k a) ∧ (Lit.int k a).wf = true) → ∃ xs : List Int, L = xs.map (Value.int k) ∧ ∀ x ∈ xs, (Lit.int k x).wf = true := by
      intro L
      induction L with
      | nil => intro _ _ _; exact ⟨[], rfl, by simp⟩
      | cons u L ih =>
        intro m hm hA
        obtain ⟨a, h1, h2⟩ := hA 0 (by simp at hm; omega)
        obtain ⟨xs, h3, h4⟩ := ih (m - 1) (by simp at hm; omega) (fun i hi => by simpa using hA (i + 1) (by omega))
        simp at h1
        refine ⟨a :: xs, by simp [h1, h3], fun x hx => ?_⟩
        rcases List.mem_cons.1 hx with rfl | hx
        · exact h2
        · exact h4 x hx
    obtain ⟨xs, h1, h2⟩ := hxs _ _ hl hall
    refine ⟨xs, ?_, by rw [h1] at hl; simpa using hl, h2⟩
    rw [← h1]
theorem two_of {xs : List Int} (h : xs.length = 2) : ∃ x y, xs = [x, y] := by
  match xs, h with
  | [x, y], _ => exact ⟨x, y, rfl⟩
end
end Go.Proofs.YtppbpmmfcoblmaaDoor

/- A slice of structs that came in, over any program: each field of one cell; every element with a reading of each of its fields. -/
namespace Go.Proofs.YtppbpmmfcoblmaaDoor
open Go.ChangeShapes Go.WideShapes Go.ChangeAt Go.RowKit Go.Deep

section
variable {H : Type} {enc : TypeId × Value → H} {P : Program} {W : World} {base : Nat}

/-- A slice of structs, opened: what each cell of each element holds, and that it reads. -/
theorem open_structs {t e : TypeId} {fs : Array Field} {v : Value} {d : DataW H} {ps : List MemPlace} (ht : P.underlying t = some (.slice e)) (he : P.underlying e = some (.struct fs))
    (hone : ∀ (i : Nat) (f : Field), fs[i]? = some f → f.offset = i ∧ P.cellsOf f.type = 1) (hC : P.cellsOf e = fs.size) (hpos : 0 < fs.size)
    (hv : Value.okWide P W .any base t v) (h : DataW.Trod enc P W 0 (fun _ => true) true t v d ps) :
    ∃ (A : Option Addr) (n c : Nat) (V : Nat → Nat → Value), v = .slice A n c ∧ (A = none → c = 0) ∧ n ≤ maxLen ∧ (0 < n → ∃ b o, A = some ⟨b, o, none⟩ ∧ b < W.heap.size ∧
      ∀ j, j < n → ∀ i f, fs[i]? = some f → W.cell? ⟨b, o + j * fs.size + i, none⟩ = some (V j i) ∧ ∃ fuel y, DataW.trod enc P W 0 (fun _ => true) true fuel f.type [V j i] = some y) := by
  obtain ⟨a0, len, cap, rfl⟩ := okWide_slice ht hv
  obtain ⟨fuel, hf⟩ := h
  rcases open_slice ht hf with ⟨hcs, _⟩ | ⟨a, len', cap', m, n, D, Pl, hcs, hb, hl, hm, hmm, _, hx⟩
  · simp [Value.cells] at hcs
    obtain ⟨rfl, rfl, rfl⟩ := hcs
    exact ⟨none, 0, 0, fun _ _ => undef, rfl, fun _ => rfl, Nat.zero_le _, fun h => absurd h (by omega)⟩
  · simp [Value.cells] at hcs
    obtain ⟨rfl, rfl, rfl⟩ := hcs
    simp only [if_true] at hmm
    subst hmm
    have each : ∀ j, j < m → ∃ cs' : List Value, W.cells? 0 (a.add (j * fs.size)) fs.size = some cs' ∧ DataW.trod enc P W 0 (fun _ => true) true n e cs' = some (D j, Pl j) := by
      intro j hj
      obtain ⟨cs', h1, h2⟩ := hx j hj
      rw [hC] at h1
      exact ⟨cs', h1, h2⟩
    obtain ⟨q, hq⟩ := choose_lt each
    refine ⟨some a, len, m, fun j i => (q j).getD i undef, rfl, (fun h => by cases h), Nat.le_trans hl hm, fun hn => ?_⟩
    obtain ⟨b, o, spot⟩ := a
    have hcell := fun j (hj : j < m) => (World.cells?_some (hq j hj).1).2
    have h0 := (hcell 0 (by omega)).2 0 hpos
    rw [List.getElem?_eq_getElem (by rw [(hcell 0 (by omega)).1]; exact hpos)] at h0
    have hspot : spot = none := by simpa [Addr.add] using World.cell?_spot h0
    subst hspot
    have h0' := World.block_lt_of_cell? W _ h0
    refine ⟨b, o, rfl, by simpa [Addr.add] using h0', fun j hj i f hi => ?_⟩
    have hjm : j < m := by omega
    obtain ⟨hlen, hc⟩ := hcell j hjm
    have hlt : i < fs.size := (Array.getElem?_eq_some_iff.1 hi).1
    obtain ⟨xs, k, _, _, _, hxl, hf'⟩ := DataW.trod_struct he (hq j hjm).2
    obtain ⟨ho, hc1⟩ := hone i f hi
    have g := hf' i f hi
    rw [ho, hc1, take1_drop (q j) i undef (by omega)] at g
    refine ⟨?_, k, ?_⟩
    · have := hc i hlt
      rw [add_add, add_plain, List.getElem?_eq_getElem (by omega)] at this
      rw [Nat.add_assoc, this]
      simp [List.getD, List.getElem?_eq_getElem (show i < (q j).length by omega)]
    · rw [List.getElem?_eq_getElem (show i < xs.length by omega)] at g
      exact ⟨_, g⟩

/-- The same, with its capacity. -/
theorem open_structs2 {t e : TypeId} {fs : Array Field} {v : Value} {d : DataW H} {ps : List MemPlace} (ht : P.underlying t = some (.slice e)) (he : P.underlying e = some (.struct fs))
    (hone : ∀ (i : Nat) (f : Field), fs[i]? = some f → f.offset = i ∧ P.cellsOf f.type = 1) (hC : P.cellsOf e = fs.size) (hpos : 0 < fs.size)
    (hv : Value.okWide P W .any base t v) (h : DataW.Trod enc P W 0 (fun _ => true) true t v d ps) :
    ∃ (A : Option Addr) (n c : Nat) (V : Nat → Nat → Value), v = .slice A n c ∧ (A = none → c = 0) ∧ n ≤ c ∧ c ≤ maxLen ∧ (0 < n → ∃ b o, A = some ⟨b, o, none⟩ ∧ b < W.heap.size ∧
      ∀ j, j < n → ∀ i f, fs[i]? = some f → W.cell? ⟨b, o + j * fs.size + i, none⟩ = some (V j i) ∧ ∃ fuel y, DataW.trod enc P W 0 (fun _ => true) true fuel f.type [V j i] = some y) := by
  obtain ⟨a0, len, cap, rfl⟩ := okWide_slice ht hv
  obtain ⟨fuel, hf⟩ := h
  rcases open_slice ht hf with ⟨hcs, _⟩ | ⟨a, len', cap', m, n, D, Pl, hcs, hb, hl, hm, hmm, _, hx⟩
  · simp [Value.cells] at hcs
    obtain ⟨rfl, rfl, rfl⟩ := hcs
    exact ⟨none, 0, 0, fun _ _ => undef, rfl, fun _ => rfl, Nat.le_refl _, Nat.zero_le _, fun h => absurd h (by omega)⟩
  · simp [Value.cells] at hcs
    obtain ⟨rfl, rfl, rfl⟩ := hcs
    simp only [if_true] at hmm
    subst hmm
    have each : ∀ j, j < m → ∃ cs' : List Value, W.cells? 0 (a.add (j * fs.size)) fs.size = some cs' ∧ DataW.trod enc P W 0 (fun _ => true) true n e cs' = some (D j, Pl j) := by
      intro j hj
      obtain ⟨cs', h1, h2⟩ := hx j hj
      rw [hC] at h1
      exact ⟨cs', h1, h2⟩
    obtain ⟨q, hq⟩ := choose_lt each
    refine ⟨some a, len, m, fun j i => (q j).getD i undef, rfl, (fun h => by cases h), hl, hm, fun hn => ?_⟩
    obtain ⟨b, o, spot⟩ := a
    have hcell := fun j (hj : j < m) => (World.cells?_some (hq j hj).1).2
    have h0 := (hcell 0 (by omega)).2 0 hpos
    rw [List.getElem?_eq_getElem (by rw [(hcell 0 (by omega)).1]; exact hpos)] at h0
    have hspot : spot = none := by simpa [Addr.add] using World.cell?_spot h0
    subst hspot
    have h0' := World.block_lt_of_cell? W _ h0
    refine ⟨b, o, rfl, by simpa [Addr.add] using h0', fun j hj i f hi => ?_⟩
    have hjm : j < m := by omega
    obtain ⟨hlen, hc⟩ := hcell j hjm
    have hlt : i < fs.size := (Array.getElem?_eq_some_iff.1 hi).1
    obtain ⟨xs, k, _, _, _, hxl, hf'⟩ := DataW.trod_struct he (hq j hjm).2
    obtain ⟨ho, hc1⟩ := hone i f hi
    have g := hf' i f hi
    rw [ho, hc1, take1_drop (q j) i undef (by omega)] at g
    refine ⟨?_, k, ?_⟩
    · have := hc i hlt
      rw [add_add, add_plain, List.getElem?_eq_getElem (by omega)] at this
      rw [Nat.add_assoc, this]
      simp [List.getD, List.getElem?_eq_getElem (show i < (q j).length by omega)]
    · rw [List.getElem?_eq_getElem (show i < xs.length by omega)] at g
      exact ⟨_, g⟩

/-- A cell that reads as an integer. -/
theorem cell_int {t : TypeId} {k : IntKind} {v : Value} {fuel : Nat} {y : DataW H × List MemPlace} (ht : P.underlying t = some (.int k)) (h : DataW.trod enc P W 0 (fun _ => true) true fuel t [v] = some y) : ∃ x, v = .int k x ∧ (Lit.int k x).wf = true := by
  obtain ⟨a, h1, _, h2⟩ := DataW.trod_int ht h
  simp at h1
  exact ⟨a, h1, h2⟩

/-- A cell that reads as a slice of integers. -/
theorem cell_row {t e : TypeId} {k : IntKind} {v : Value} {fuel : Nat} {y : DataW H × List MemPlace} (ht : P.underlying t = some (.slice e)) (he : P.underlying e = some (.int k)) (hc : P.cellsOf e = 1) (h : DataW.trod enc P W 0 (fun _ => true) true fuel t [v] = some y) :
    ∃ A n c xs, v = .slice A n c ∧ Row k W W.heap.size A n xs ∧ (A = none → c = 0) ∧ ∀ x ∈ xs, (Lit.int k x).wf = true := by
  rcases open_ints ht he hc h with ⟨hcs, hx⟩ | ⟨a, len', cap', zs, hcs, _, hl, hm, hz, hx, hcell, hwz⟩
  · simp at hcs
    exact ⟨none, 0, 0, [], hcs, Row.none_, fun _ => rfl, by simp⟩
  · simp at hcs
    exact ⟨some a, len', cap', zs.take len', hcs, row_of_open (by simp at hz; omega) hcell, (fun h => by cases h), fun x hx => hwz x (List.mem_of_mem_take hx)⟩
end

/-- A list of what is chosen at each index. -/
theorem list_of {α : Type} [Inhabited α] {n : Nat} {p : Nat → α → Prop} (h : ∀ i, i < n → ∃ x, p i x) : ∃ l : List α, l.length = n ∧ ∀ i x, l[i]? = some x → p i x := by
  obtain ⟨f, hf⟩ := choose_lt h
  refine ⟨(List.range n).map f, by simp, fun i x hx => ?_⟩
  have hi : i < n := by
    have := (List.getElem?_eq_some_iff.1 hx).1
    simpa using this
  simp [hi] at hx
  subst hx
  exact hf i hi
end Go.Proofs.YtppbpmmfcoblmaaDoor
