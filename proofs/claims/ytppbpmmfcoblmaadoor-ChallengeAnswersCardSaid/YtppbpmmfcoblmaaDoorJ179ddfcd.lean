/- Lemmas that the proof stands on, in build order: RgC StepC TokIt ChR Res. -/
import Derived.BigQuiet
import Derived.RegionTactic
import Derived.Test.YtppbpmmfcoblmaaDoorProg
import Derived.WalkKit
import Derived.Laws.Rows
import Derived.Test.YtppbpmmfcoblmaaDoorJ14e35fe5
import Derived.Test.YtppbpmmfcoblmaaDoorJ16496690
import Derived.Test.YtppbpmmfcoblmaaDoorJ1ef7bc1
import Derived.Test.YtppbpmmfcoblmaaDoorJ94b8122
/- Layer 9 (ring): the reference's Find, as a contract. -/
namespace Go.Proofs.YtppbpmmfcoblmaaDoor.Rg
open Go.RowKit Slc

/-- What a call that looks for a key answers. -/
def FindTo (B : Nat) (w0 : World) (K : List Kp) (e : Int) (x : Ending) (w' : World) : Prop :=
  ∃ A n c, x = .returned (.tuple #[.slice A n c, .bool (fnd (ls K) e).isSome]) ∧ Row .u8 w' w'.heap.size A n ((fnd (ls K) e).getD []) ∧ (A = none → c = 0) ∧ n ≤ c ∧ Below B w0 w'

set_option maxHeartbeats 1600000 in
set_option maxRecDepth 100000 in
theorem reffind_any (keep e : Int) (A : Option Addr) (n c B : Nat) (K : List Kp) (w : World) (h : KRow w B A n K) (hB : B ≤ w.heap.size) (hn : n ≤ 4398046511104) :
    Calls Tryd.prog 23 #[.agg #[.int .i64 keep, .slice A n c], .int .i64 e] w (FindTo w.heap.size w K e) := by
  have H := Lib.hid h
  have HBB := Lib.hid hB
  have hlen := h.len
  have HB0 : Hid (Below w.heap.size w (w.alloc (.cells #[.int .i64 keep, .slice A n c] 24))) := (Below.refl _ _).alloc (Nat.le_refl _) _
  have c1 : (w.alloc (.cells #[.int .i64 keep, .slice A n c] 24)).cell? ⟨w.heap.size, 1, none⟩ = some (.slice A n c) := cell_of_blk (heap_alloc_new w _) rfl
  have HC := Lib.hid c1
  have HS1 : Hid ((w.alloc (.cells #[.int .i64 keep, .slice A n c] 24)).heap.size = w.heap.size + 1) := by unfold Hid; simp
  have HK1 := Lib.hid (H.out.below (HB0.out.mono HBB.out))
  clear h hB
  go_enter Tryd.func23, Tryd.ntmps23
  go_wp2_with fail
  generalize w.alloc (.cells #[.int .i64 keep, .slice A n c] 24) = w1 at *
  go_loopw [6] (fun i wr => ∃ t : Nat, t ≤ n ∧ i = .int .i64 (t : Int) ∧ wr = w1 ∧ Hid (∀ (j : Nat) (q : Kl), j < t → (ls K)[j]? = some q → q.1 ≠ e)) (fun i _ => n - (intOf i).toNat)
  case atStart => exact ⟨0, Nat.zero_le _, rfl, rfl, Lib.hid (fun j q h => absurd h (by omega))⟩
  case round =>
    obtain ⟨t, ht, rfl, rfl, HG⟩ := hrel
    by_cases hlt : t < n
    · obtain ⟨b, o, k, rfl, hbb, hk, hok, k0, k1⟩ := HK1.out.at hlt
      have hlt' : (t : Int) < (n : Int) := by omega
      have HOK := Lib.hid hok
      have HKA := Lib.hid (ls_at hk)
      clear hk hok
      obtain ⟨ke, pA, pn, pc, xs⟩ := k
      simp only at k0 k1
      by_cases q0 : ke = e
      · subst q0
        have hf : Hid (fnd (ls K) ke = some xs) := fnd_hit HKA.out rfl HG.out
        go_wp2
        go_ret2
        refine ⟨pA, pn, pc, by rw [hf.out]; rfl, ?_, HOK.out.right.2, HOK.out.le, HB0.out⟩
        rw [hf.out]
        exact HOK.out.right.1.more (Nat.le_trans HBB.out HB0.out.size)
      · have hd : decide (ke = e) = false := decide_eq_false q0
        have hd' : (ke == e) = false := beq_eq_false_iff_ne.2 q0
        have HG2 : Hid (∀ (j : Nat) (q : Kl), j < t + 1 → (ls K)[j]? = some q → q.1 ≠ e) := fun j q hj hq => by
          by_cases hjt : j < t
          · exact HG.out j q hjt hq
          · obtain rfl : j = t := by omega
            rw [HKA.out] at hq
            injection hq with hq
            subst hq
            exact q0
        have Q0 := Lib.hid q0
        clear q0
        go_wp2
        go_roundw
        case rel => exact ⟨t + 1, by omega, by go_num, trivial, HG2⟩
        case measure => simp [intOf]; omega
    · obtain rfl : t = n := by omega
      have hf : Hid (fnd (ls K) e = none) := fnd_miss (fun j q hj => HG.out j q (by have := (List.getElem?_eq_some_iff.1 hj).1; rw [ls_len] at this; omega) hj)
      go_wp2
      go_ret2
      exact ⟨none, 0, 0, by rw [hf.out]; rfl, by rw [hf.out]; exact Row.none_, fun _ => rfl, Nat.le_refl _, HB0.out⟩
end Go.Proofs.YtppbpmmfcoblmaaDoor.Rg

/- An append as a step of a region that draws, over any program. -/
namespace Go.Proofs.YtppbpmmfcoblmaaDoor.StepC
open Go.RowKit

/-- 'append(out, ys...)' as a step of a region that draws: out is nil or one's own, ys reads as a row that is not nil; told with the block in which the row lies behind it. -/
theorem step_cat {P : Program} {ops : Array Oper} {o : Oper} {a : Act} {K : Act → World → Prop} {Q : Exit → Act → World → Prop} {E : Prop} {w : World} (hgd : o.guard = none) (s x : Operand) (t : TypeId)
    (ho : o.op = .call { callee := .builtin .append, args := #[s, x], argTypes := #[t, t] })
    (base : Nat) (e : TypeId) (i : TypeInfo) (k : IntKind) (bytes : Nat) (ht : P.underlying t = some (.slice e)) (hi : P.info? e = some i) (hz : i.zero = some (.int k 0)) (hsize : i.size = 1) (hby : i.bytes = bytes)
    (v : Value) (n : Nat) (xs : List Int) (hs : a.eval s = v) (hown : w.ownsRow base e 1 v n (xs.map (Value.int k))) (B : Nat) (ad : Addr) (m c : Nat) (ys : List Int) (hx : a.eval x = .slice (some ad) m c) (hr : Row k w B (some ad) m ys)
    (hn : n + m ≤ 4398046511104) (hb8 : bytes ≤ 8) (hbase : base ≤ w.heap.size)
    (h : ∀ v' w', w'.ownsRow base e 1 v' (n + m) ((xs ++ ys).map (Value.int k)) → w.grownBy w' v.ownBlock → (v'.ownBlock = v.ownBlock ∨ v'.ownBlock = some w.heap.size) → K (a.put o.dst v') w') :
    if Region.wanted o (yielded ops a.tmps) = true then Oper.wp P o a w K Q else E := by
  have hw : Region.wanted o (yielded ops a.tmps) = true := by simp [Region.wanted, hgd]
  rw [if_pos hw]
  have hnews : ∀ j u, (ys.map (Value.int k))[j]? = some u → w.cell? (ad.add j) = some u := by
    intro j u hj
    have hjl : j < ys.length := by
      have := (List.getElem?_eq_some_iff.1 hj).1
      simpa using this
    have hl := hr.1
    obtain ⟨b, o, he, _, hc⟩ := hr.cell_at (show j < m by omega)
    injection he with he
    subst he
    have hadd : (⟨b, o, none⟩ : Addr).add j = ⟨b, o + j, none⟩ := by unfold Addr.add; split <;> simp_all
    rw [hadd, hc]
    simp only [List.getElem?_map, List.getElem?_eq_getElem hjl, Option.map_some, Option.some.injEq] at hj
    subst hj
    simp [List.getD, hjl]
  have h1 : ∀ u ∈ ys.map (Value.int k), u.oneCell' = true := by
    intro u hu
    obtain ⟨y, _, rfl⟩ := List.mem_map.1 hu
    rfl
  have hl : (ys.map (Value.int k)).length = m * 1 := by simp [hr.1]
  have h63 : n + m ≤ maxLen := by unfold maxLen; omega
  have hbb : (n + m) * bytes ≤ 140737488355328 := by have := Nat.mul_le_mul hn hb8; omega
  obtain ⟨v', w', hrun, h2, h3, _⟩ := run_append_own (P := P) w base t o.type e i (.int k 0) 1 bytes ht hi hz hsize hby rfl (by omega) v n _ hown ad m c _ hl hnews h1 h63 hbb hbase
  have h5 := append_lies (P := P) w base t o.type e i (.int k 0) 1 bytes ht hi hz hsize hby v n _ hown ad m c _ hl hnews h1 h63 hbb v' w' hrun
  unfold Oper.wp execOp
  simp only [ho, resolve, invoke, builtin, Sem.run_bind, Sem.run_pure, Result.andThen_ok, List.map_toArray, List.map_cons, List.map_nil, hs, hx, hrun]
  exact h v' w' (by simpa using h2) h3 h5
end Go.Proofs.YtppbpmmfcoblmaaDoor.StepC

/- Layer 10 (token): the reference's Tag, as a contract. -/
namespace Go.Proofs.YtppbpmmfcoblmaaDoor.Tok
open Go.RowKit Var Fld Frm Sha Hmc Rg

/-- The name of the tags. -/
def tokB : ByteArray := ⟨#[116, 111, 107, 101, 110]⟩
theorem tokB_sby : sby tokB = tokn := by decide +kernel

set_option maxHeartbeats 800000 in
set_option maxRecDepth 100000 in
theorem reftokentag_any (A : Option Addr) (n c B : Nat) (k : List Int) (t : T) (ht : t.ok) (w : World) (h : Row .u8 w B A n k) (hB : B ≤ w.heap.size) (hnil : A = none → c = 0) (hn : n ≤ 1099511627776) (hk : ∀ x ∈ k, 0 ≤ x ∧ x ≤ 255) :
    Calls Tryd.prog 24 #[.slice A n c, t.val] w fun e w' => ∃ v, e = .returned v ∧ w'.ownsRow w.heap.size 5 1 v 32 ((tagT k t).map (Value.int .u8)) ∧ Below w.heap.size w w' := by
  have hb : Below w.heap.size w (w.alloc (.cells t.cells 41)) := (Below.refl _ _).alloc (Nat.le_refl _) _
  have HB0 := Lib.hid hb
  have H := Lib.hid (h.below (hb.mono hB))
  have HS : Hid (B ≤ (w.alloc (.cells t.cells 41)).heap.size) := Nat.le_trans hB hb.size
  have HN := Lib.hid hnil
  have HK := Lib.hid hk
  have HF := Lib.hid (reffields_any t ht (w.alloc (.cells t.cells 41)))
  have HFL := Lib.hid (flds_len ht)
  have HFB := Lib.hid (flds_byt t)
  have hblk : (w.alloc (.cells t.cells 41)).heap[w.heap.size]? = some (.cells t.cells 41 (0, 0)) := heap_alloc_new w _
  unfold T.val at HF ⊢
  have eC : t.cells = #[.int .i64 t.tr, .int .i64 t.ac, .int .i64 t.st, .int .i64 t.is, .int .i64 t.un, .int .i64 t.ep] := rfl
  rw [eC] at hblk HB0 H HS HF ⊢
  have k0 := cell_of_blk (j := 0) hblk rfl
  have k1 := cell_of_blk (j := 1) hblk rfl
  have k2 := cell_of_blk (j := 2) hblk rfl
  have k3 := cell_of_blk (j := 3) hblk rfl
  have k4 := cell_of_blk (j := 4) hblk rfl
  have k5 := cell_of_blk (j := 5) hblk rfl
  clear h hB hnil hk hb hblk eC ht
  go_enter Tryd.func24, Tryd.ntmps24
  go_wp2_with fail
  refine HF.out.mono ?_
  rintro e1 w1 ⟨v1, rfl, hown1, hb1⟩
  obtain ⟨A1, c1, rfl, -, hnil1⟩ := own_slice hown1
  have HR1 : Hid (Row .u8 w1 w1.heap.size A1 (flds t).length (flds t)) := Row.of_own hown1
  have HN1 := Lib.hid hnil1
  have HB1 := Lib.hid (HB0.out.trans (hb1.mono HB0.out.size))
  have HR := Lib.hid ((H.out.below (hb1.mono HS.out)).more (Nat.le_trans HS.out hb1.size))
  clear hown1 hb1 hnil1
  go_wp2_with fail
  refine (refderive_any A A1 n c (flds t).length c1 k (flds t) tokB w1 HR.out HR1.out HN.out HN1.out hn (by have := HFL.out; omega) (by show 5 ≤ 137438953472; omega) HK.out HFB.out).mono ?_
  rintro e2 w2 ⟨v2, rfl, hown2, hb2⟩
  rw [tokB_sby] at hown2
  have HO2 : Hid (w2.ownsRow w.heap.size 5 1 v2 32 ((tagT k t).map (Value.int .u8))) := own_low hown2 HB1.out.size
  have HB2 := Lib.hid (HB1.out.trans (hb2.mono HB1.out.size))
  clear hown2 hb2
  go_wp2
  go_ret
  exact ⟨_, rfl, HO2.out, HB2.out⟩

theorem lastK_at {E : List Kl} {k : Kl} (h : E[E.length - 1]? = some k) : lastK E = k.2 := by
  unfold lastK
  rw [List.getLast?_eq_getElem?, h]
  rfl
theorem issue_no {keep : Int} {E : List Kl} {t : T} (h : ¬ (RtP keep E ∧ (t.at (now E)).may)) : issue keep E t = ([], 2) := by unfold issue; rw [if_neg h]
theorem issue_yes {keep : Int} {E : List Kl} {t : T} (h : RtP keep E ∧ (t.at (now E)).may) : issue keep E t = (frame 2 (body (lastK E) (t.at (now E))), 0) := by unfold issue; rw [if_pos h]
/-- What the reference's Issue answers. -/
def IssueTo (w : World) (r : List Int × Int) (x : Ending) (w' : World) : Prop :=
  ∃ A n c, x = .returned (.tuple #[.slice A n c, .int .i64 r.2]) ∧ Row .u8 w' w'.heap.size A n r.1 ∧ (A = none → c = 0) ∧ Below w.heap.size w w'
end Go.Proofs.YtppbpmmfcoblmaaDoor.Tok

/- Layer 11 (challenge): the reference's May, Tag and Answer, as contracts. -/
namespace Go.Proofs.YtppbpmmfcoblmaaDoor.Chl
open Go.RowKit Var Fld Frm Sha Hmc Rg Tok

/-- The names of the tags. -/
def devB : ByteArray := ⟨#[100, 101, 118, 105, 99, 101]⟩
def answB : ByteArray := ⟨#[97, 110, 115, 119, 101, 114]⟩
theorem devB_sby : sby devB = devn := by decide +kernel
theorem answB_sby : sby answB = answ := by decide +kernel

set_option maxRecDepth 100000 in
theorem refmay_any (A : Option Addr) (n c : Nat) (q : List Int) (nw : Int) (w : World) (hl : q.length = n) :
    Calls Tryd.prog 12 #[.slice A n c, .int .i64 nw] w fun x w' => x = .returned (.bool (decide (may q nw))) ∧ w' = w := by
  have ho : ∀ b, b = decide (may q nw) → (x : Ending) → (x = .returned (.bool b)) → x = .returned (.bool (decide (may q nw))) := fun b h x e => by rw [← h]; exact e
  have HM : Hid (may q nw ↔ (n = 16 ∧ 0 ≤ nw ∧ nw ≤ 1099511627776)) := by unfold Hid may; rw [hl]
  clear hl
  by_cases h0 : n = 16
  · have d0 : ((n : Int) == 16) = true := by rw [h0]; rfl
    have G0 : Hid (n = 16) := h0
    clear h0
    by_cases h1 : 0 ≤ nw
    · have d1 : decide (0 ≤ nw) = true := decide_eq_true h1
      by_cases h2 : nw ≤ 1099511627776
      · have d2 : decide (nw ≤ 1099511627776) = true := decide_eq_true h2
        have G1 : Hid (true = decide (may q nw)) := (decide_eq_true (HM.out.2 ⟨G0.out, h1, h2⟩)).symm
        clear h1 h2
        go_enter Tryd.func12, Tryd.ntmps12
        go_wp2
        go_ret
        exact ⟨ho _ G1.out _ rfl, rfl⟩
      · have d2 : decide (nw ≤ 1099511627776) = false := decide_eq_false h2
        have G1 : Hid (false = decide (may q nw)) := (decide_eq_false (fun h => h2 (HM.out.1 h).2.2)).symm
        clear h1 h2
        go_enter Tryd.func12, Tryd.ntmps12
        go_wp2
        go_ret
        exact ⟨ho _ G1.out _ rfl, rfl⟩
    · have d1 : decide (0 ≤ nw) = false := decide_eq_false h1
      have G1 : Hid (false = decide (may q nw)) := (decide_eq_false (fun h => h1 (HM.out.1 h).2.1)).symm
      clear h1
      go_enter Tryd.func12, Tryd.ntmps12
      go_wp2
      go_ret
      exact ⟨ho _ G1.out _ rfl, rfl⟩
  · have d0 : ((n : Int) == 16) = false := by
      cases h : ((n : Int) == 16) with
      | false => rfl
      | true => exact absurd (by have := eq_of_beq h; omega) h0
    have G1 : Hid (false = decide (may q nw)) := (decide_eq_false (fun h => h0 (HM.out.1 h).1)).symm
    clear h0
    go_enter Tryd.func12, Tryd.ntmps12
    go_wp2
    go_ret
    exact ⟨ho _ G1.out _ rfl, rfl⟩

set_option maxHeartbeats 1600000 in
set_option maxRecDepth 100000 in
theorem reftag_any (A A' : Option Addr) (n c n' c' : Nat) (k q : List Int) (t : Int) (w : World) (h : Row .u8 w w.heap.size A n k) (h' : Row .u8 w w.heap.size A' n' q) (hnil : A = none → c = 0) (hnil' : A' = none → c' = 0) (hn : n ≤ 1099511627776) (hn' : n' ≤ 1099511627776) (ht : t ≤ 9223372036854775807) (hk : ∀ x ∈ k, 0 ≤ x ∧ x ≤ 255) (hq : ∀ x ∈ q, 0 ≤ x ∧ x ≤ 255) (hs : n' ≤ 1000000) :
    Calls Tryd.prog 35 #[.slice A n c, .slice A' n' c', .int .i64 t] w fun e w' => ∃ v, e = .returned v ∧ w'.ownsRow w.heap.size 5 1 v 32 ((ansT k q t).map (Value.int .u8)) ∧ Below w.heap.size w w' := by
  obtain ⟨i0, hi, hz0, hz1, hz2⟩ := Sha.parts_of info8
  have H := Lib.hid h
  have H' := Lib.hid h'
  have HN := Lib.hid hnil
  have HN' := Lib.hid hnil'
  have HK := Lib.hid hk
  have HQ := Lib.hid hq
  have HT := Lib.hid ht
  have HOW0 : Hid (w.ownsRow w.heap.size 5 1 (.slice none 0 0) 0 (([] : List Int).map (Value.int .u8))) := World.ownsRow_nil _ _ _ _
  have HL : Hid ((num t).length ≤ 10) := num_len ht
  have HQL : Hid (q.length = n') := h'.len
  have HNB : Hid (∀ x ∈ q ++ num t, 0 ≤ x ∧ x ≤ 255) := fun x hx => by
    rcases List.mem_append.1 hx with hx | hx
    · exact hq x hx
    · exact num_byt _ x hx
  clear h h' hnil hnil' hk hq ht
  go_enter Tryd.func35, Tryd.ntmps35
  go_wp2_with (at_builtin; refine cat_own rfl (.tmp 8) (.tmp 9) 25 rfl w.heap.size 5 i0 .u8 1 Tryd.underlying25 hi hz0 hz1 hz2 _ 0 [] rfl HOW0.out w.heap.size A' n' c' q rfl HN'.out H'.out (by omega) (by omega) (Nat.le_refl _) ?_; intro v1 w1 hown1 hb1; have HO1 := Lib.hid hown1; have HB1 := Lib.hid hb1; clear hown1 hb1)
  refine (refnumber_any t HT.out w1).mono ?_
  rintro e2 w2 ⟨v2, rfl, hown2, hb2⟩
  obtain ⟨A2, c2, rfl, -, hnil2⟩ := own_slice hown2
  have HR2 : Hid (Row .u8 w2 w2.heap.size A2 (num t).length (num t)) := Row.of_own hown2
  have HN2 := Lib.hid hnil2
  have HO2 := Lib.hid (own_below HO1.out hb2)
  have HB2 := Lib.hid (HB1.out.trans (hb2.mono HB1.out.size))
  clear hown2 hb2 hnil2
  go_wp2_with (at_builtin; refine cat_own rfl (.tmp 12) (.tmp 14) 25 rfl w.heap.size 5 i0 .u8 1 Tryd.underlying25 hi hz0 hz1 hz2 _ (0 + n') ([] ++ q) rfl HO2.out w2.heap.size A2 (num t).length c2 (num t) rfl HN2.out HR2.out (by have h1 := HL.out; omega) (by omega) HB2.out.size ?_; intro v3 w3 hown3 hb3; have HO3 := Lib.hid hown3; have HB3 := Lib.hid (HB2.out.trans hb3); clear hown3 hb3)
  obtain ⟨n3, hn3⟩ : ∃ n3, n3 = 0 + n' + (num t).length := ⟨_, rfl⟩
  have hown3 := HO3.out
  rw [← hn3, List.nil_append] at hown3
  obtain ⟨A3, c3, rfl, -, hnil3⟩ := own_slice hown3
  have HR3 : Hid (Row .u8 w3 w3.heap.size A3 n3 (q ++ num t)) := (Row.of_own (by exact hown3))
  have HN3 := Lib.hid hnil3
  have hn3' : n3 ≤ 137438953472 := by have h1 := HL.out; omega
  clear hown3 hnil3 HO3 HO2 HO1 HR2
  refine (refderive_any A A3 n c n3 c3 k (q ++ num t) answB w3 ((H.out.below HB3.out).more HB3.out.size) HR3.out HN.out HN3.out hn hn3' (by show 6 ≤ 137438953472; omega) HK.out HNB.out).mono ?_
  rintro e4 w4 ⟨v4, rfl, hown4, hb4⟩
  rw [answB_sby] at hown4
  have HO4 : Hid (w4.ownsRow w.heap.size 5 1 v4 32 ((ansT k q t).map (Value.int .u8))) := own_low hown4 HB3.out.size
  have HB4 := Lib.hid (HB3.out.trans (hb4.mono HB3.out.size))
  clear hown4 hb4
  go_wp2
  go_ret
  exact ⟨_, rfl, HO4.out, HB4.out⟩

set_option maxHeartbeats 1600000 in
set_option maxRecDepth 100000 in
theorem refanswer_any (A A' : Option Addr) (n c n' c' : Nat) (k q : List Int) (t : Int) (w : World) (h : Row .u8 w w.heap.size A n k) (h' : Row .u8 w w.heap.size A' n' q) (hnil : A = none → c = 0) (hnil' : A' = none → c' = 0) (hn : n ≤ 1099511627776) (ht : t ≤ 9223372036854775807) (hk : ∀ x ∈ k, 0 ≤ x ∧ x ≤ 255) (hq : ∀ x ∈ q, 0 ≤ x ∧ x ≤ 255) (hs : n' ≤ 1000000) :
    Calls Tryd.prog 13 #[.slice A n c, .slice A' n' c', .int .i64 t] w (Makes (frame 6 (cont k q t)) w) := by
  obtain ⟨i0, hi, hz0, hz1, hz2⟩ := Sha.parts_of info8
  have H := Lib.hid h
  have H' := Lib.hid h'
  have HN := Lib.hid hnil
  have HN' := Lib.hid hnil'
  have HK := Lib.hid hk
  have HQ := Lib.hid hq
  have HT := Lib.hid ht
  have HL : Hid ((num t).length ≤ 10) := num_len ht
  have HCL : Hid ((cont k q t).length ≤ 52) := cont_len ht
  have HCB := Lib.hid (cont_byt k q t)
  clear h h' hnil hnil' hk hq ht
  go_enter Tryd.func13, Tryd.ntmps13
  go_wp2_with fail
  refine (refnumber_any t HT.out w).mono ?_
  rintro e2 w2 ⟨v2, rfl, hown2, hb2⟩
  have HO2 := Lib.hid hown2
  have HB2 := Lib.hid hb2
  clear hown2 hb2
  go_wp2_with fail
  refine (reftag_any A A' n c n' c' k q t w2 ((H.out.below HB2.out).more HB2.out.size) ((H'.out.below HB2.out).more HB2.out.size) HN.out HN'.out hn (by omega) HT.out HK.out HQ.out hs).mono ?_
  rintro e3 w3 ⟨v3, rfl, hown3, hb3⟩
  obtain ⟨A3, c3, rfl, -, hnil3⟩ := own_slice hown3
  have HR3 : Hid (Row .u8 w3 w3.heap.size A3 32 (ansT k q t)) := Row.of_own hown3
  have HN3 := Lib.hid hnil3
  have HO3 := Lib.hid (own_below HO2.out hb3)
  have HB3 := Lib.hid (HB2.out.trans (hb3.mono HB2.out.size))
  clear hown3 hb3 hnil3 HO2
  go_wp2_with fail
  refine (refbytes_any A3 32 c3 w3.heap.size (ansT k q t) w3 HR3.out (Nat.le_refl _) HN3.out (by omega)).mono ?_
  rintro e4 w4 ⟨v4, rfl, hown4, hb4⟩
  obtain ⟨Y, hY⟩ : ∃ Y, Y = num ((32 : Nat) : Int) ++ ansT k q t := ⟨_, rfl⟩
  rw [← hY] at hown4
  have HYC : Hid (num t ++ Y = cont k q t) := by unfold Hid; rw [hY]; rfl
  obtain ⟨A4, c4, rfl, -, hnil4⟩ := own_slice hown4
  have HR4 : Hid (Row .u8 w4 w4.heap.size A4 Y.length Y) := Row.of_own hown4
  have HN4 := Lib.hid hnil4
  have HO4 := Lib.hid (own_below HO3.out hb4)
  have HB4 := Lib.hid (HB3.out.trans (hb4.mono HB3.out.size))
  have HLY : Hid ((num t).length + Y.length ≤ 52) := by have h1 := HCL.out; rw [← HYC.out, List.length_append] at h1; exact h1
  clear hown4 hb4 hnil4 HO3 hY
  go_wp2_with (at_builtin; refine cat_own rfl (.tmp 8) (.tmp 13) 25 rfl w.heap.size 5 i0 .u8 1 Tryd.underlying25 hi hz0 hz1 hz2 _ (num t).length (num t) rfl HO4.out w4.heap.size A4 Y.length c4 Y rfl HN4.out HR4.out (by have h1 := HLY.out; omega) (by omega) HB4.out.size ?_; intro v5 w5 hown5 hb5; have HO5 := Lib.hid hown5; have HB5 := Lib.hid (HB4.out.trans hb5); clear hown5 hb5)
  obtain ⟨n5, hn5⟩ : ∃ n5, n5 = (num t).length + Y.length := ⟨_, rfl⟩
  have hown5 := HO5.out
  rw [← hn5, HYC.out] at hown5
  obtain ⟨A5, c5, rfl, -, hnil5⟩ := own_slice hown5
  have HR5 : Hid (Row .u8 w5 w5.heap.size A5 n5 (cont k q t)) := Row.of_own (by exact hown5)
  have HN5 := Lib.hid hnil5
  have hn5' : n5 ≤ 1048576 := by have h1 := HLY.out; omega
  clear hown5 hnil5 HO5 HO4 HR4
  refine (refput_any 6 (by omega) A5 n5 c5 (cont k q t) w5 HR5.out HN5.out HCB.out hn5').mono ?_
  rintro e6 w6 ⟨v6, rfl, hown6, hb6⟩
  have HO6 := Lib.hid (own_low hown6 HB5.out.size)
  have HB6 := Lib.hid (HB5.out.trans (hb6.mono HB5.out.size))
  clear hown6 hb6
  go_wp2
  go_ret
  exact ⟨_, rfl, HO6.out, HB6.out⟩
end Go.Proofs.YtppbpmmfcoblmaaDoor.Chl

/- Results of which the first lies in a block of its own, over any program. -/
namespace Go.Proofs.YtppbpmmfcoblmaaDoor
open Go.RowKit

theorem results_cell_tmps {fn : Func} {p u v : Tmp} {ty : TypeId} {P : Program} (h : fn.results = #[.cell p ty, .tmp u, .tmp v]) (tmps : Array Value) (w : World) (g : Nat) (cs : Array Value)
    (hp : tmps.getD p undef = .pointer (some ⟨g, 0, none⟩)) (hl : (loadVar ty ⟨g, 0, none⟩).run P w = .ok (.agg cs) w) :
    (results fn tmps).run P w = .ok (.tuple #[.agg cs, tmps.getD u undef, tmps.getD v undef]) w := by
  have hp' : tmps[p]?.getD undef = .pointer (some ⟨g, 0, none⟩) := by simpa using hp
  simp [results, h, hp', asAddr, hl]
theorem results_cell_one {fn : Func} {p u : Tmp} {ty : TypeId} {P : Program} (h : fn.results = #[.cell p ty, .tmp u]) (tmps : Array Value) (w : World) (g : Nat) (cs : Array Value)
    (hp : tmps.getD p undef = .pointer (some ⟨g, 0, none⟩)) (hl : (loadVar ty ⟨g, 0, none⟩).run P w = .ok (.agg cs) w) :
    (results fn tmps).run P w = .ok (.tuple #[.agg cs, tmps.getD u undef]) w := by
  have hp' : tmps[p]?.getD undef = .pointer (some ⟨g, 0, none⟩) := by simpa using hp
  simp [results, h, hp', asAddr, hl]
end Go.Proofs.YtppbpmmfcoblmaaDoor
