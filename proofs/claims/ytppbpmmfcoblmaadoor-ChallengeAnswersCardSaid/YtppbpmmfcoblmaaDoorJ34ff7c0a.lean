/- Lemmas that the proof stands on, in build order: ChA. -/
import Derived.Lib.MinMax
import Derived.ScopeJumps
import Derived.Test.YtppbpmmfcoblmaaDoorJ217febdc
import Derived.Test.YtppbpmmfcoblmaaDoorJ33e5eb7a
/- Layer 11 (challenge): the program's may, apart, deviceKey, tagged, Answer and Device, as contracts. -/
namespace Go.Proofs.YtppbpmmfcoblmaaDoor.Chl
open Go.RowKit Slc Var Fld Frm Sha Hmc Rg Tok

set_option maxRecDepth 100000 in
theorem may_any (A : Option Addr) (n c : Nat) (q : List Int) (nw : Int) (w : World) (hl : q.length = n) :
    Calls Tryd.prog 26 #[.slice A n c, .int .i64 nw] w fun x w' => x = .returned (.bool (decide (may q nw))) ∧ w' = w := by
  have ho : ∀ b, b = decide (may q nw) → (x : Ending) → (x = .returned (.bool b)) → x = .returned (.bool (decide (may q nw))) := fun b h x e => by rw [← h]; exact e
  have HM : Hid (may q nw ↔ (n = 16 ∧ 0 ≤ nw ∧ nw ≤ 1099511627776)) := by unfold Hid may; rw [hl]
  clear hl
  by_cases h0 : n = 16
  · have d0 : ((n : Int) == 16) = true := by rw [h0]; rfl
    have G0 : Hid (n = 16) := h0
    clear h0
    by_cases h1 : 0 ≤ nw
    · have d1 : decide (0 ≤ nw) = true := decide_eq_true h1
      by_cases h2 : nw ≤ 1099511627776
      · have d2 : decide (nw ≤ 1099511627776) = true := decide_eq_true h2
        have G1 : Hid (true = decide (may q nw)) := (decide_eq_true (HM.out.2 ⟨G0.out, h1, h2⟩)).symm
        clear h1 h2
        go_enter Tryd.func26, Tryd.ntmps26
        go_wp2
        go_ret
        exact ⟨ho _ G1.out _ rfl, rfl⟩
      · have d2 : decide (nw ≤ 1099511627776) = false := decide_eq_false h2
        have G1 : Hid (false = decide (may q nw)) := (decide_eq_false (fun h => h2 (HM.out.1 h).2.2)).symm
        clear h1 h2
        go_enter Tryd.func26, Tryd.ntmps26
        go_wp2
        go_ret
        exact ⟨ho _ G1.out _ rfl, rfl⟩
    · have d1 : decide (0 ≤ nw) = false := decide_eq_false h1
      have G1 : Hid (false = decide (may q nw)) := (decide_eq_false (fun h => h1 (HM.out.1 h).2.1)).symm
      clear h1
      go_enter Tryd.func26, Tryd.ntmps26
      go_wp2
      go_ret
      exact ⟨ho _ G1.out _ rfl, rfl⟩
  · have d0 : ((n : Int) == 16) = false := by
      cases h : ((n : Int) == 16) with
      | false => rfl
      | true => exact absurd (by have := eq_of_beq h; omega) h0
    have G1 : Hid (false = decide (may q nw)) := (decide_eq_false (fun h => h0 (HM.out.1 h).1)).symm
    clear h0
    go_enter Tryd.func26, Tryd.ntmps26
    go_wp2
    go_ret
    exact ⟨ho _ G1.out _ rfl, rfl⟩

/-- How far two times are from each other. -/
def far (a b : Int) : Int := if a ≤ b then b - a else a - b
theorem far_le {a b s : Int} : s < far a b ↔ (s < a - b ∨ s < b - a) ∨ (s < 0 ∧ a = b) := by
  unfold far
  split <;> omega

set_option maxRecDepth 100000 in
theorem apart_any (a b : Int) (ha : 0 ≤ a ∧ a ≤ 1099511627776) (hb : 0 ≤ b ∧ b ≤ 1099511627776) (w : World) :
    Calls Tryd.prog 38 #[.int .i64 a, .int .i64 b] w fun e w' => e = .returned (.int .i64 (far a b)) ∧ w' = w := by
  by_cases hab : a ≤ b
  · have hd : far a b = b - a := by unfold far; rw [if_pos hab]
    have h1 : max a b = b := by omega
    have h2 : min a b = a := by omega
    have m1 : IntKind.i64.wrap (b - a) = b - a := IntWalk.i64_in _ ⟨by omega, by omega⟩
    rw [hd]
    go_enter Tryd.func38, Tryd.ntmps38
    go_wp2
    go_ret
    exact ⟨rfl, rfl⟩
  · have hd : far a b = a - b := by unfold far; rw [if_neg hab]
    have h1 : max a b = a := by omega
    have h2 : min a b = b := by omega
    have m1 : IntKind.i64.wrap (a - b) = a - b := IntWalk.i64_in _ ⟨by omega, by omega⟩
    rw [hd]
    go_enter Tryd.func38, Tryd.ntmps38
    go_wp2
    go_ret
    exact ⟨rfl, rfl⟩

set_option maxHeartbeats 800000 in
set_option maxRecDepth 100000 in
theorem deviceKey_any (keep ep : Int) (A A' : Option Addr) (n c n' c' B : Nat) (K : List Kp) (b k : List Int) (w : World) (h : KRow w B A n K) (hB : B ≤ w.heap.size) (hs : Small n K) (h' : Row .u8 w w.heap.size A' n' b) (hnil' : A' = none → c' = 0) (hb : Byt b) (hc' : n' ≤ c') (hn' : n' ≤ 90000) (hf : fnd (ls K) ep = some k) (hT : Lay w) :
    Calls Tryd.prog 21 #[.agg #[.int .i64 keep, .slice A n c], .int .i64 ep, .slice A' n' c'] w fun e w' => ∃ v, e = .returned v ∧ w'.ownsRow w.heap.size 5 1 v 32 ((devK k b).map (Value.int .u8)) ∧ Below w.heap.size w w' := by
  obtain ⟨w1, hw1⟩ : ∃ w1, w.alloc (.cells #[.int .i64 keep, .slice A n c] 24) = w1 := ⟨_, rfl⟩
  have hb1 : Below w.heap.size w w1 := by rw [← hw1]; exact (Below.refl _ _).alloc (Nat.le_refl _) _
  have hG1 : w1.heap[w.heap.size]? = some (.cells #[.int .i64 keep, .slice A n c] 24 (0, 0)) := by rw [← hw1]; exact heap_alloc_new w _
  have g0 : w1.cell? ⟨w.heap.size, 0, none⟩ = some (.int .i64 keep) := cell_of_blk hG1 rfl
  have g1 : w1.cell? ⟨w.heap.size, 1, none⟩ = some (.slice A n c) := cell_of_blk hG1 rfl
  have hfi := find_any keep ep A n c B K w1 (h.below (hb1.mono hB)) (Nat.le_trans hB hb1.size) (by have := hs.1; omega) hs.2
  unfold FindTo at hfi
  rw [hf] at hfi
  have HFI := Lib.hid hfi
  have HKL := Lib.hid (fnd_small h hs.2 hf)
  have HKB := Lib.hid (fnd_byt h hf)
  have HB1 := Lib.hid hb1
  have HW1 := Lib.hid hw1
  have HR := Lib.hid h'
  have HNIL := Lib.hid hnil'
  have HBY := Lib.hid hb
  have HC := Lib.hid hc'
  have HT := Lib.hid hT
  rw [← hw1] at g0 g1
  clear hw1 hb1 hG1 hfi h hB hs h' hnil' hb hc' hf hT
  go_enter Tryd.func21, Tryd.ntmps21
  go_wp2_with fail
  rw [HW1.out]
  refine HFI.out.mono ?_
  rintro e2 w2 ⟨A2, n2, c2, rfl, hr2, hnil2, hnc2, hb2⟩
  simp only [Option.getD_some] at hr2
  have hB2 : Below w.heap.size w w2 := HB1.out.trans (hb2.mono HB1.out.size)
  have hba : Below w2.heap.size w2 (w2.alloc (.cells #[.slice A' n' c'] 25)) := (Below.refl _ _).alloc (Nat.le_refl _) _
  have hB3 := hB2.trans (hba.mono hB2.size)
  have hp : Prs (w2.alloc (.cells #[.slice A' n' c'] 25)) (w2.alloc (.cells #[.slice A' n' c'] 25)).heap.size (some ⟨w2.heap.size, 0, none⟩) 1 [⟨A', n', c', b⟩] := Prs.of_blk (L := [⟨A', n', c', b⟩]) (heap_alloc_new w2 _) (by simp) rfl (fun p hp => by
    obtain rfl := List.mem_singleton.1 hp
    exact ⟨(HR.out.below hB3).more hB3.size, HNIL.out⟩) (fun p hp => by
    obtain rfl := List.mem_singleton.1 hp
    exact ⟨HC.out, HBY.out⟩)
  have HD := Lib.hid (derive_any A2 (some ⟨w2.heap.size, 0, none⟩) n2 c2 1 1 k devB _ (w2.alloc (.cells #[.slice A' n' c'] 25)) ((hr2.below hba).more hba.size) hnc2 HKB.out hp (fun h => by cases h) (by have h1 := hr2.len; have h2 := HKL.out; omega) (by show 6 ≤ 100000; omega) (by omega) (by show n' + 0 ≤ 100000; omega) (HT.out.below hB3 HT.out.tab.1))
  have hwh : whole [(⟨A', n', c', b⟩ : Part)] = b := by simp [whole]
  rw [hwh, devB_sby] at HD
  have HB3 := Lib.hid hB3
  clear hr2 hnil2 hnc2 hb2 hba hp hB2 hB3 hwh g0 g1 HW1 HFI
  go_wp2_with fail
  refine HD.out.mono ?_
  rintro e4 w4 ⟨v4, rfl, hown4, hb4⟩
  have HO4 : Hid (w4.ownsRow w.heap.size 5 1 v4 32 ((devK k b).map (Value.int .u8))) := own_low hown4 HB3.out.size
  have HB4 := Lib.hid (HB3.out.trans (hb4.mono HB3.out.size))
  clear hown4 hb4
  go_wp2
  go_ret
  exact ⟨_, rfl, HO4.out, HB4.out⟩

set_option maxHeartbeats 800000 in
set_option maxRecDepth 100000 in
theorem tagged_any (A A' : Option Addr) (n c n' c' : Nat) (k q : List Int) (t : Int) (w : World) (h : Row .u8 w w.heap.size A n k) (hc : n ≤ c) (hn : n ≤ 100000) (hk : ∀ x ∈ k, 0 ≤ x ∧ x ≤ 255) (h' : Row .u8 w w.heap.size A' n' q) (hnil' : A' = none → c' = 0) (hc' : n' ≤ c') (hn' : n' ≤ 90000) (hq : ∀ x ∈ q, 0 ≤ x ∧ x ≤ 255) (ht : t ≤ 9223372036854775807) (hT : Lay w) :
    Calls Tryd.prog 29 #[.slice A n c, .slice A' n' c', .int .i64 t] w fun e w' => ∃ v, e = .returned v ∧ w'.ownsRow w.heap.size 5 1 v 32 ((ansT k q t).map (Value.int .u8)) ∧ Below w.heap.size w w' := by
  obtain ⟨w1, hw1⟩ : ∃ w1, w.alloc (.cells #[.slice none 0 0] 69) = w1 := ⟨_, rfl⟩
  have hw0 : Wr w1 w.heap.size w.heap.size (.slice none 0 0) 0 [] := by
    rw [← hw1]
    exact ⟨heap_alloc_new w _, World.ownsRow_nil _ _ _ _, by simp [Value.ownBlock], Nat.le_refl _⟩
  have hb1 : Below w.heap.size w w1 := by rw [← hw1]; exact (Below.refl _ _).alloc (Nat.le_refl _) _
  have HNU := Lib.hid (number_any w.heap.size w.heap.size 0 (.slice none 0 0) [] t w1 hw0 ht (by omega))
  have HW0 := Lib.hid hw0
  have HB1 := Lib.hid hb1
  have HW1 := Lib.hid hw1
  have H := Lib.hid h
  have HC := Lib.hid hc
  have HK := Lib.hid hk
  have HR := Lib.hid h'
  have HNIL := Lib.hid hnil'
  have HC' := Lib.hid hc'
  have HQ := Lib.hid hq
  have HT := Lib.hid hT
  have HL : Hid ((num t).length ≤ 10) := num_len ht
  have HNB := Lib.hid (fun x hx => num_byt t x hx)
  obtain ⟨Y, hY⟩ : ∃ Y, Y = num t := ⟨_, rfl⟩
  rw [← hY] at HNU HL HNB
  have HA : Hid (ansT k q t = mac k (answ ++ 0 :: (q ++ Y))) := by unfold Hid; rw [hY]; rfl
  rw [HA.out]
  clear hw1 hb1 hw0 h hc hk h' hnil' hc' hq hT ht hY
  go_enter Tryd.func29, Tryd.ntmps29
  go_wp2_with fail
  rw [HW1.out]
  refine HNU.out.mono ?_
  rintro e3 w3 ⟨rfl, v3, hw3, hm3⟩
  have hbb3 := HW0.out.below_of hm3
  have HB3 := Lib.hid (HB1.out.trans hbb3)
  have HOU := Lib.hid (out_any w.heap.size w.heap.size _ v3 _ w3 hw3 (by have := HL.out; omega))
  clear hw3 hm3 hbb3 HNU HW0
  go_wp2_with fail
  refine HOU.out.mono ?_
  rintro e5 w5 ⟨v5, rfl, hown5, hb5⟩
  rw [Nat.zero_add, List.nil_append] at hown5
  obtain ⟨A5, c5, rfl, hc5, hnil5⟩ := own_slice hown5
  have HB5 := Lib.hid (HB3.out.trans (hb5.mono HB3.out.size))
  obtain ⟨m, hm'⟩ : ∃ m, Y.length = m := ⟨_, rfl⟩
  rw [hm'] at hown5 hc5 ⊢
  have HML : Hid (m ≤ 10) := by unfold Hid; rw [← hm']; exact HL.out
  have hba : Below w5.heap.size w5 (w5.alloc (.cells #[.slice A' n' c', .slice A5 m c5] 25)) := (Below.refl _ _).alloc (Nat.le_refl _) _
  have hB6 := HB5.out.trans (hba.mono HB5.out.size)
  have hr5 : Row .u8 w5 w5.heap.size A5 m Y := Row.of_own hown5
  have hp : Prs (w5.alloc (.cells #[.slice A' n' c', .slice A5 m c5] 25)) (w5.alloc (.cells #[.slice A' n' c', .slice A5 m c5] 25)).heap.size (some ⟨w5.heap.size, 0, none⟩) 2 [⟨A', n', c', q⟩, ⟨A5, m, c5, Y⟩] := Prs.of_blk (L := [⟨A', n', c', q⟩, ⟨A5, m, c5, Y⟩]) (heap_alloc_new w5 _) (by simp) rfl (fun p hp => by
    simp only [List.mem_cons, List.not_mem_nil, or_false] at hp
    rcases hp with rfl | rfl
    · exact ⟨(HR.out.below hB6).more hB6.size, HNIL.out⟩
    · exact ⟨(hr5.below hba).more hba.size, hnil5⟩) (fun p hp => by
    simp only [List.mem_cons, List.not_mem_nil, or_false] at hp
    rcases hp with rfl | rfl
    · exact ⟨HC'.out, HQ.out⟩
    · exact ⟨hc5, HNB.out⟩)
  have HD := Lib.hid (derive_any A (some ⟨w5.heap.size, 0, none⟩) n c 2 2 k answB _ (w5.alloc (.cells #[.slice A' n' c', .slice A5 m c5] 25)) ((H.out.below hB6).more hB6.size) HC.out HK.out hp (fun h => by cases h) hn (by show 6 ≤ 100000; omega) (by omega) (by show n' + (m + 0) ≤ 100000; have := HML.out; omega) (HT.out.below hB6 HT.out.tab.1))
  have hwh : whole [(⟨A', n', c', q⟩ : Part), ⟨A5, m, c5, Y⟩] = q ++ Y := by simp [whole]
  rw [hwh, answB_sby] at HD
  have HB6 := Lib.hid hB6
  clear hown5 hb5 hc5 hnil5 hm' hba hB6 hr5 hp hwh HOU
  go_wp2_with fail
  refine HD.out.mono ?_
  rintro e7 w7 ⟨v7, rfl, hown7, hb7⟩
  have HO7 : Hid (w7.ownsRow w.heap.size 5 1 v7 32 ((mac k (answ ++ 0 :: (q ++ Y))).map (Value.int .u8))) := own_low hown7 HB6.out.size
  have HB7 := Lib.hid (HB6.out.trans (hb7.mono HB6.out.size))
  clear hown7 hb7
  go_wp2
  go_ret
  exact ⟨_, rfl, HO7.out, HB7.out⟩

/-- Bytes into a Writer: a row that lies in another block than the Writer's. -/
theorem bytes_far (base g n : Nat) (v : Value) (xs : List Int) (A : Option Addr) (m c : Nat) (ys : List Int) (w : World) (hw : Wr w base g v n xs) (hr : Row .u8 w w.heap.size A m ys) (hne : ∀ b o, A = some ⟨b, o, none⟩ → b ≠ g ∧ v.ownBlock ≠ some b) (hnil : A = none → c = 0) (hn : n + 10 + m ≤ 4398046511104) :
    Calls Tryd.prog 28 #[.pointer (some ⟨g, 0, none⟩), .slice A m c] w (Adds w base g v n xs (num m ++ ys)) := by
  have HW := Lib.hid hw
  have HR := Lib.hid hr
  have HN := Lib.hid hnil
  have HE := Lib.hid hne
  have HL := Lib.hid (num_len (k := (m : Int)) (by omega))
  clear hw hr hnil hne
  go_enter Tryd.func28, Tryd.ntmps28
  go_wp2_with fail
  refine (number_any base g n v xs (m : Int) w HW.out (by omega) (by omega)).mono ?_
  rintro e1 w1 ⟨rfl, v1, hw1, hm1⟩
  have HW1 := Lib.hid hw1
  have HM1 := Lib.hid hm1
  have HR1 : Hid (Row .u8 w1 w.heap.size A m ys) := hm1.only.row HR.out (Nat.le_refl _) (fun b o e _ hM => by
    obtain ⟨h1, h2⟩ := HE.out b o e
    rcases hM with h3 | h3
    · exact h1 h3
    · exact h2 h3)
  clear hw1 hm1
  go_wp2_with fail
  refine (add_any base g _ v1 _ A m c w.heap.size ys w1 HW1.out HR1.out HN.out (by have := HL.out; omega)).mono ?_
  rintro e2 w2 ⟨rfl, v2, hw2, hm2⟩
  have HW2 := Lib.hid hw2
  have HM2 := Lib.hid hm2
  clear hw2 hm2
  go_wp2
  go_end0
  refine ⟨rfl, v2, ?_, HM1.out.trans HM2.out⟩
  have := HW2.out
  rw [List.append_assoc, Nat.add_assoc, ← List.length_append] at this
  exact this

theorem devTo_ans {w w' : World} {Z : List Int} {v : Value} (h : w'.ownsRow w.heap.size 5 1 v Z.length (Z.map (Value.int .u8))) (hb : Below w.heap.size w w') : DevTo w (Z, 0) (.returned (.tuple #[v, .int .i64 0])) w' := by
  obtain ⟨A, c, rfl, h1, h2, h3⟩ := own_max h
  exact ⟨A, _, c, rfl, Row.of_own h, h3, h1, h2, hb⟩

set_option maxHeartbeats 1600000 in
set_option maxRecDepth 100000 in
theorem answer_any (A A' : Option Addr) (n c n' c' : Nat) (k q : List Int) (t : Int) (w : World) (h : Row .u8 w w.heap.size A n k) (hc : n ≤ c) (hn : n ≤ 100000) (hk : ∀ x ∈ k, 0 ≤ x ∧ x ≤ 255) (h' : Row .u8 w w.heap.size A' n' q) (hnil' : A' = none → c' = 0) (hc' : n' ≤ c') (hn' : n' ≤ 90000) (hq : ∀ x ∈ q, 0 ≤ x ∧ x ≤ 255) (hT : Lay w) :
    Calls Tryd.prog 11 #[.slice A n c, .slice A' n' c', .int .i64 t] w (DevTo w (answer k q t)) := by
  obtain ⟨w1, hw1⟩ : ∃ w1, w.alloc (.cells #[.slice none 0 0] 69) = w1 := ⟨_, rfl⟩
  have hw0 : Wr w1 w.heap.size w.heap.size (.slice none 0 0) 0 [] := by
    rw [← hw1]
    exact ⟨heap_alloc_new w _, World.ownsRow_nil _ _ _ _, by simp [Value.ownBlock], Nat.le_refl _⟩
  have hb1 : Below w.heap.size w w1 := by rw [← hw1]; exact (Below.refl _ _).alloc (Nat.le_refl _) _
  have HMY := Lib.hid (may_any A' n' c' q t w1 h'.1)
  have HW0 := Lib.hid hw0
  have HB1 := Lib.hid hb1
  have HW1 := Lib.hid hw1
  have H := Lib.hid h
  have HC := Lib.hid hc
  have HK := Lib.hid hk
  have HR := Lib.hid h'
  have HNIL := Lib.hid hnil'
  have HC' := Lib.hid hc'
  have HQ := Lib.hid hq
  have HT := Lib.hid hT
  have HCB := Lib.hid (cont_byt k q t)
  obtain ⟨r, hr⟩ : ∃ r, r = answer k q t := ⟨_, rfl⟩
  rw [← hr]
  have HRR := Lib.hid hr
  clear hw1 hb1 hw0 h hc hk h' hnil' hc' hq hT hr
  go_enter Tryd.func11, Tryd.ntmps11
  go_wp2_with fail
  refine scope_on 0 rfl ?_
  go_wp2_with fail
  rw [HW1.out]
  refine HMY.out.mono ?_
  rintro e2 w2 ⟨rfl, hw2⟩
  rw [hw2]
  clear hw2
  by_cases hok : may q t
  · rw [decide_eq_true hok]
    have ht : t ≤ 9223372036854775807 := by have := hok.2.2; omega
    have HRE : Hid (r = (frame 6 (cont k q t), 0)) := by have h1 := HRR.out; unfold answer at h1; rw [if_pos hok] at h1; exact h1
    have HL : Hid ((num t).length ≤ 10) := num_len ht
    have HCL : Hid ((cont k q t).length ≤ 52) := cont_len ht
    have HNU := Lib.hid (number_any w.heap.size w.heap.size 0 (.slice none 0 0) [] t w1 HW0.out ht (by omega))
    have HTM : Hid (t ≤ 9223372036854775807) := ht
    clear hok ht
    go_wp2_with fail
    refine HNU.out.mono ?_
    rintro e3 w3 ⟨rfl, v3, hw3, hm3⟩
    have hbb3 := HW0.out.below_of hm3
    have HB3 := Lib.hid (HB1.out.trans hbb3)
    rw [List.nil_append, Nat.zero_add] at hw3
    have HW3 := Lib.hid hw3
    have HTA := Lib.hid (tagged_any A A' n c n' c' k q t w3 ((H.out.below HB3.out).more HB3.out.size) HC.out hn HK.out ((HR.out.below HB3.out).more HB3.out.size) HNIL.out HC'.out hn' HQ.out HTM.out (HT.out.below HB3.out HT.out.tab.1))
    clear hw3 hm3 hbb3 HNU HW0 HW1 HMY
    go_wp2_with fail
    refine HTA.out.mono ?_
    rintro e4 w4 ⟨v4, rfl, hown4, hb4⟩
    obtain ⟨A4, c4, rfl, hc4, hnil4⟩ := own_slice hown4
    have HW4 := Lib.hid (HW3.out.below hb4)
    have HB4 := Lib.hid (HB3.out.trans (hb4.mono HB3.out.size))
    have hne4 : ∀ b o, A4 = some ⟨b, o, none⟩ → b ≠ w.heap.size ∧ v3.ownBlock ≠ some b := fun b o e => by
      subst e
      have h1 := (hown4.lt b rfl).1
      refine ⟨by have := HW3.out.lt; omega, fun h2 => ?_⟩
      have := (HW3.out.own.lt b h2).2
      omega
    have hby := bytes_far w.heap.size w.heap.size (num t).length v3 (num t) A4 32 c4 (ansT k q t) w4 HW4.out (Row.of_own hown4) hne4 hnil4 (by have := HL.out; omega)
    obtain ⟨Y, hY⟩ : ∃ Y, Y = num ((32 : Nat) : Int) ++ ansT k q t := ⟨_, rfl⟩
    rw [← hY] at hby
    have HYC : Hid (num t ++ Y = cont k q t) := by unfold Hid; rw [hY]; rfl
    have HBYT := Lib.hid hby
    clear hown4 hb4 hc4 hnil4 hne4 hby hY HW3 HTA
    go_wp2_with fail
    refine HBYT.out.mono ?_
    rintro e5 w5 ⟨rfl, v5, hw5, hm5⟩
    have hbb5 := HW4.out.below_of hm5
    have HB5 := Lib.hid (HB4.out.trans (hbb5.mono (Nat.le_refl _)))
    rw [← List.length_append, HYC.out] at hw5
    have HOU := Lib.hid (out_any w.heap.size w.heap.size _ v5 _ w5 hw5 (by have := HCL.out; omega))
    clear hw5 hm5 hbb5 HBYT HW4
    go_wp2_with fail
    refine HOU.out.mono ?_
    rintro e6 w6 ⟨v6, rfl, hown6, hb6⟩
    obtain ⟨A6, c6, rfl, hc6, hnil6⟩ := own_slice hown6
    have HB6 := Lib.hid (HB5.out.trans (hb6.mono HB5.out.size))
    have HP := Lib.hid (put_any 6 (by omega) A6 (cont k q t).length c6 (cont k q t) w6 (Row.of_own hown6) hnil6 HCB.out (by have := HCL.out; omega))
    clear hown6 hb6 hc6 hnil6 HOU
    go_wp2_with fail
    refine HP.out.mono ?_
    rintro e7 w7 ⟨v7, rfl, hown7, hb7⟩
    have HO7 : Hid (w7.ownsRow w.heap.size 5 1 v7 (frame 6 (cont k q t)).length ((frame 6 (cont k q t)).map (Value.int .u8))) := own_low hown7 HB6.out.size
    have HB7 := Lib.hid (HB6.out.trans (hb7.mono HB6.out.size))
    clear hown7 hb7 HP
    go_wp2
    simp only [Exit.jump]
    go_ret2
    rw [HRE.out]
    exact devTo_ans HO7.out HB7.out
  · rw [decide_eq_false hok]
    have HRE : Hid (r = ([], 2)) := by have h1 := HRR.out; unfold answer at h1; rw [if_neg hok] at h1; exact h1
    clear hok
    go_wp2
    go_step3
    refine ⟨rfl, ?_⟩
    unfold Later
    go_wp2
    simp only [Exit.jump]
    go_ret2
    rw [HRE.out]
    exact devTo_no HB1.out
end Go.Proofs.YtppbpmmfcoblmaaDoor.Chl
