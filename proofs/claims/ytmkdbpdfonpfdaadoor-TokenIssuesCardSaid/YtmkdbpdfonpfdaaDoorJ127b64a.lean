/- Lemmas that the proof stands on, in build order: Base ShaM Same Own ShaP ShaK ShaE HmcM RgM Part Key RgB RgC KeyA ShaT. -/
import Derived.WalkKit
import Derived.Lib.Hide
import Derived.Laws.OwnMore
import Derived.Laws.AppendOwnNone
import Derived.Laws.BitsAllLaws
import Derived.Test.YtmkdbpdfonpfdaaDoorProg
import Derived.KernelRfl
import Derived.Deep.QuietTactic
import Derived.BigQuiet
import Derived.WalkMore
import Derived.OneCell
import Derived.OwnWalk
import Derived.Laws.Rows
/- Words of our own for memory, over any program: a slice that reads as a list of numbers, and the append of one number onto a row of the call's own. -/
namespace Go.Proofs.YtmkdbpdfonpfdaaDoor
open Go.RowKit

theorem ret_int {k : IntKind} {a b : Int} (h : a = b) : Ending.returned (.int k a) = .returned (.int k b) := by rw [h]

/-- The slice '.slice A n c' reads as the numbers xs of kind k and lies below block B; nil is let in. -/
def Row (k : IntKind) (w : World) (B : Nat) (A : Option Addr) (n : Nat) (xs : List Int) : Prop :=
  xs.length = n ∧ (0 < n → ∃ b o, A = some ⟨b, o, none⟩ ∧ b < B ∧ ∀ j, j < n → w.cell? ⟨b, o + j, none⟩ = some (.int k (xs.getD j 0)))

section
variable {k : IntKind} {w w' : World} {B B' n : Nat} {A : Option Addr} {xs : List Int}
theorem Row.len (h : Row k w B A n xs) : xs.length = n := h.1
theorem Row.none_ : Row k w B A 0 [] := ⟨rfl, fun h => absurd h (by omega)⟩
theorem Row.keep (h : Row k w B A n xs) (hk : ∀ p : Addr, p.block < B → w'.cell? p = w.cell? p) : Row k w' B A n xs :=
  ⟨h.1, fun hn => by
    obtain ⟨b, o, e, hb, hc⟩ := h.2 hn
    exact ⟨b, o, e, hb, fun j hj => (hk _ hb).trans (hc j hj)⟩⟩
theorem Row.more (h : Row k w B A n xs) (hB : B ≤ B') : Row k w B' A n xs :=
  ⟨h.1, fun hn => by
    obtain ⟨b, o, e, hb, hc⟩ := h.2 hn
    exact ⟨b, o, e, by omega, hc⟩⟩
theorem Row.below (h : Row k w B A n xs) (hb : Below B w w') : Row k w' B A n xs := h.keep fun _ hp => hb.cell hp
theorem Row.alloc (h : Row k w B A n xs) (hB : B ≤ w.heap.size) (o : Obj) : Row k (w.alloc o) B A n xs := h.below ((Below.refl _ _).alloc hB o)
theorem Row.drew (h : Row k w B A n xs) : Row k w.drew B A n xs := h
theorem Row.of_own {base c : Nat} {e : TypeId} (h : w.ownsRow base e 1 (.slice A n c) n (xs.map (Value.int k))) : Row k w w.heap.size A n xs := by
  have hl : xs.length = n := by simpa using h.1
  refine ⟨hl, fun hn => ?_⟩
  rcases h.2 with ⟨h0, h1⟩ | ⟨g, cap, cur, hv, _, hg, _, _, _, _⟩
  · omega
  · injection hv with h1 h2 h3
    subst h1; subst h3
    refine ⟨g, 0, rfl, (Array.getElem?_eq_some_iff.1 hg).1, fun j hj => ?_⟩
    rw [Nat.zero_add, h.cellAt j (by omega)]
    have : j < xs.length := by omega
    simp [List.getD, this]
theorem Row.cell_at (h : Row k w B A n xs) {j : Nat} (hj : j < n) : ∃ b o, A = some ⟨b, o, none⟩ ∧ b < B ∧ w.cell? ⟨b, o + j, none⟩ = some (.int k (xs.getD j 0)) := by
  obtain ⟨b, o, e, hb, hc⟩ := h.2 (by omega)
  exact ⟨b, o, e, hb, hc j hj⟩
end

/-- A slice value that owns a row: its shape. -/
theorem own_slice {w : World} {base n : Nat} {e : TypeId} {v : Value} {xs : List Value} (h : w.ownsRow base e 1 v n xs) : ∃ A c, v = .slice A n c ∧ n ≤ c ∧ (A = none → c = 0) := by
  rcases h.2 with ⟨rfl, rfl⟩ | ⟨g, cap, cur, rfl, _, _, hc, _⟩
  · exact ⟨none, 0, rfl, Nat.le_refl _, fun _ => rfl⟩
  · exact ⟨_, cap, rfl, hc, fun h => by cases h⟩

theorem own_at {w : World} {base n c : Nat} {e : TypeId} {A : Option Addr} {xs : List Value} (h : w.ownsRow base e 1 (.slice A n c) n xs) (hn : 0 < n) : ∃ g, A = some ⟨g, 0, none⟩ ∧ base ≤ g := by
  rcases h.2 with ⟨_, h0⟩ | ⟨g, cap, cur, hv, h1, _⟩
  · omega
  · injection hv with h2
    exact ⟨g, h2, h1⟩

/-- A row of one's own, behind a call that leaves all memory so far as it was. -/
theorem own_below {w w' : World} {base n : Nat} {e : TypeId} {v : Value} {xs : List Value} (h : w.ownsRow base e 1 v n xs) (hb : Below w.heap.size w w') : w'.ownsRow base e 1 v n xs := by
  refine ⟨h.1, ?_⟩
  rcases h.2 with hn | ⟨g, cap, cur, rfl, h1, hg, rest⟩
  · exact .inl hn
  · exact .inr ⟨g, cap, cur, rfl, h1, (hb.block g (Array.getElem?_eq_some_iff.1 hg).1).trans hg, rest⟩

/-- 'append(out, x)' of one number: the number lies in a new block of one cell; out is nil or the call's own. -/
theorem push_own {P : Program} {ops : Array Oper} {rest : List Oper} {o : Oper} {a : Act} {Q : Exit → Act → World → Prop} {w : World} (hgd : o.guard = none) (s x : Operand) (t : TypeId)
    (ho : o.op = .call { callee := .builtin .append, args := #[s, x], argTypes := #[t, t] })
    (base : Nat) (e : TypeId) (i : TypeInfo) (k : IntKind) (bytes : Nat) (ht : P.underlying t = some (.slice e)) (hi : P.info? e = some i) (hz : i.zero = some (.int k 0)) (hsize : i.size = 1) (hby : i.bytes = bytes)
    (v : Value) (n : Nat) (xs : List Int) (y : Int) (hs : a.eval s = v) (hown : w.ownsRow base e 1 v n (xs.map (Value.int k))) (hx : a.eval x = .slice (some ⟨w.heap.size, 0, none⟩) 1 1)
    (hn : n + 1 ≤ 4398046511104) (hb8 : bytes ≤ 8) (hbase : base ≤ w.heap.size)
    (h : ∀ v' w', w'.ownsRow base e 1 v' (n + 1) ((xs ++ [y]).map (Value.int k)) → Below base w w' → wpList P ops Q rest (a.put o.dst v') w') :
    wpList P ops Q (o :: rest) a (w.alloc (.cells #[.int k y] e)) := by
  refine wpList_append_own _ hgd s x t ho base e i (.int k 0) 1 bytes ht hi hz hsize hby rfl (by omega) v n (xs.map (Value.int k)) hs (hown.alloc _) ⟨w.heap.size, 0, none⟩ 1 1 [.int k y] hx rfl ?_ ?_ ?_ ?_ ?_ ?_
  · intro j u hj
    match j, hj with
    | 0, hj => simp at hj; subst hj; simp [Addr.add]
  · intro u hu; simp at hu; subst hu; rfl
  · unfold maxLen; omega
  · have := Nat.mul_le_mul hn hb8
    omega
  · simp; omega
  · intro v' w' hown' hgrow _
    refine h v' w' (by simpa using hown') ?_
    refine ((Below.refl _ _).alloc hbase _).grown hgrow (by simp; omega) (fun j hj => (hown.lt j hj).1)

/-- 'append(out, ys...)': out is nil or the call's own; ys reads as a row, nil let in. -/
theorem cat_own {P : Program} {ops : Array Oper} {rest : List Oper} {o : Oper} {a : Act} {Q : Exit → Act → World → Prop} {w : World} (hgd : o.guard = none) (s x : Operand) (t : TypeId)
    (ho : o.op = .call { callee := .builtin .append, args := #[s, x], argTypes := #[t, t] })
    (base : Nat) (e : TypeId) (i : TypeInfo) (k : IntKind) (bytes : Nat) (ht : P.underlying t = some (.slice e)) (hi : P.info? e = some i) (hz : i.zero = some (.int k 0)) (hsize : i.size = 1) (hby : i.bytes = bytes)
    (v : Value) (n : Nat) (xs : List Int) (hs : a.eval s = v) (hown : w.ownsRow base e 1 v n (xs.map (Value.int k))) (B : Nat) (A : Option Addr) (m c : Nat) (ys : List Int) (hx : a.eval x = .slice A m c) (hnil : A = none → c = 0) (hr : Row k w B A m ys)
    (hn : n + m ≤ 4398046511104) (hb8 : bytes ≤ 8) (hbase : base ≤ w.heap.size)
    (h : ∀ v' w', w'.ownsRow base e 1 v' (n + m) ((xs ++ ys).map (Value.int k)) → Below base w w' → wpList P ops Q rest (a.put o.dst v') w') :
    wpList P ops Q (o :: rest) a w := by
  rcases A with _ | ad
  · have hm : m = 0 := by
      rcases Nat.eq_zero_or_pos m with h0 | h0
      · exact h0
      · obtain ⟨_, _, h1, _⟩ := hr.2 h0
        cases h1
    subst hm
    have hy : ys = [] := List.eq_nil_of_length_eq_zero hr.1
    subst hy
    rw [hnil rfl] at hx
    exact wpList_append_own_none hgd s x t ho base e i 1 ht hi v n _ hs hown hx (h v w (by simpa using hown) (Below.refl _ _))
  · refine wpList_append_own _ hgd s x t ho base e i (.int k 0) 1 bytes ht hi hz hsize hby rfl (by omega) v n (xs.map (Value.int k)) hs hown ad m c (ys.map (Value.int k)) hx (by simp [hr.1]) ?_ ?_ ?_ ?_ hbase ?_
    · intro j u hj
      have hjl : j < ys.length := by
        have := (List.getElem?_eq_some_iff.1 hj).1
        simpa using this
      have hl := hr.1
      obtain ⟨b, o, he, _, hc⟩ := hr.cell_at (show j < m by omega)
      injection he with he
      subst he
      have hadd : (⟨b, o, none⟩ : Addr).add j = ⟨b, o + j, none⟩ := by unfold Addr.add; split <;> simp_all
      rw [hadd, hc]
      simp only [List.getElem?_map, List.getElem?_eq_getElem hjl, Option.map_some, Option.some.injEq] at hj
      subst hj
      simp [List.getD, hjl]
    · intro u hu
      obtain ⟨y, _, rfl⟩ := List.mem_map.1 hu
      rfl
    · unfold maxLen; omega
    · have := Nat.mul_le_mul hn hb8
      omega
    · intro v' w' hown' hgrow _
      exact h v' w' (by simpa using hown') ((Below.refl _ _).grown hgrow hbase (fun j hj => (hown.lt j hj).1))
end Go.Proofs.YtmkdbpdfonpfdaaDoor

/- Words of 32 bits as the model's numbers, and SHA-256 as plain mathematics; no program is named here. -/
namespace Go.Proofs.YtmkdbpdfonpfdaaDoor.Sha
open Go.RowKit

abbrev Wd := BitVec 32
/-- A word as a number. -/
def wi (a : Wd) : Int := (a.toNat : Int)
theorem wi_bd (a : Wd) : 0 ≤ wi a ∧ wi a < 4294967296 := by unfold wi; have := a.isLt; omega
theorem wi_xor (a b : Wd) : bits .xor .u32 (wi a) (wi b) = wi (a ^^^ b) := by
  unfold wi; rw [u32_xor_nat _ _ a.isLt b.isLt, BitVec.toNat_xor]
theorem wi_and (a b : Wd) : bits .and .u32 (wi a) (wi b) = wi (a &&& b) := by
  unfold wi; rw [u32_and_nat _ _ a.isLt b.isLt, BitVec.toNat_and]
theorem wi_or (a b : Wd) : bits .or .u32 (wi a) (wi b) = wi (a ||| b) := by
  unfold wi; rw [u32_or_nat _ _ a.isLt b.isLt, BitVec.toNat_or]
theorem wi_add (a b : Wd) : IntKind.u32.wrap (wi a + wi b) = wi (a + b) := by
  unfold wi; rw [IntKind.wrap_u32', BitVec.toNat_add]; omega
theorem wi_shr (a : Wd) (n : Nat) : wi a / 2 ^ n = wi (a >>> n) := by
  unfold wi
  rw [BitVec.toNat_ushiftRight, Nat.shiftRight_eq_div_pow]
  simp
theorem wi_shl (a : Wd) (n : Nat) : wi a * 2 ^ n % 4294967296 = wi (a <<< n) := by
  unfold wi
  rw [BitVec.toNat_shiftLeft, Nat.shiftLeft_eq]
  simp
theorem wi_not (a : Wd) : 4294967295 - wi a = wi (~~~a) := by
  unfold wi
  rw [BitVec.toNat_not]
  have := a.isLt
  omega
theorem wi_of (n : Nat) (h : n < 4294967296) : (n : Int) = wi (BitVec.ofNat 32 n) := by
  unfold wi
  rw [BitVec.toNat_ofNat]
  omega
theorem wi_inj {a b : Wd} (h : wi a = wi b) : a = b := by
  unfold wi at h
  exact BitVec.eq_of_toNat_eq (by omega)

theorem wi_shr3 (a : Wd) : (wi a / (8 : Int) : Int) = wi (a >>> 3) := by have := wi_shr a 3; simpa using this
theorem wi_shr10 (a : Wd) : (wi a / (1024 : Int) : Int) = wi (a >>> 10) := by have := wi_shr a 10; simpa using this

theorem wi_com (a : Wd) : bits .xor .u32 (if IntKind.u32.signed = true then -1 else IntKind.u32.max) (wi a) = wi (~~~a) := by
  have e : (if IntKind.u32.signed = true then -1 else IntKind.u32.max) = wi (BitVec.allOnes 32) := rfl
  rw [e, wi_xor, BitVec.allOnes_xor]

/-- Rotated; the small functions of the rounds. -/
def rot (a : Wd) (n : Nat) : Wd := (a >>> n) ||| (a <<< (32 - n))
def sg0 (x : Wd) : Wd := rot x 7 ^^^ rot x 18 ^^^ (x >>> 3)
def sg1 (x : Wd) : Wd := rot x 17 ^^^ rot x 19 ^^^ (x >>> 10)
def bg0 (a : Wd) : Wd := rot a 2 ^^^ rot a 13 ^^^ rot a 22
def bg1 (e : Wd) : Wd := rot e 6 ^^^ rot e 11 ^^^ rot e 25
def cho (e f g : Wd) : Wd := (e &&& f) ^^^ (~~~e &&& g)
def maj (a b c : Wd) : Wd := (a &&& b) ^^^ (a &&& c) ^^^ (b &&& c)

/-- Word j of a list. -/
def wat (l : List Wd) (j : Nat) : Wd := l.getD j 0
/-- The next word of a schedule. -/
def more (w : List Wd) : Wd := wat w (w.length - 16) + sg0 (wat w (w.length - 15)) + wat w (w.length - 7) + sg1 (wat w (w.length - 2))
def sched : Nat → List Wd → List Wd
  | 0, w => w
  | n + 1, w => sched n w ++ [more (sched n w)]
theorem sched_len (w : List Wd) : ∀ n, (sched n w).length = w.length + n
  | 0 => rfl
  | n + 1 => by
    have := sched_len w n
    simp only [sched, List.length_append, List.length_cons, List.length_nil]
    omega

/-- One round over eight words; n rounds; a block; what is added at its end. -/
def one (v : List Wd) (k w : Wd) : Wd := wat v 7 + bg1 (wat v 4) + cho (wat v 4) (wat v 5) (wat v 6) + k + w
def round (v : List Wd) (k w : Wd) : List Wd := [one v k w + bg0 (wat v 0) + maj (wat v 0) (wat v 1) (wat v 2), wat v 0, wat v 1, wat v 2, wat v 3 + one v k w, wat v 4, wat v 5, wat v 6]
def rounds (ks ws h : List Wd) : Nat → List Wd
  | 0 => h
  | n + 1 => round (rounds ks ws h n) (wat ks n) (wat ws n)
def adds (h v : List Wd) : Nat → List Wd
  | 0 => []
  | n + 1 => adds h v n ++ [wat h n + wat v n]
theorem adds_len (h v : List Wd) : ∀ n, (adds h v n).length = n
  | 0 => rfl
  | n + 1 => by simp [adds, adds_len h v n]

/-- Four bytes as a word: the first j of them. -/
def four (b : List Int) (at_ : Nat) : Nat → Nat
  | 0 => 0
  | j + 1 => four b at_ j * 256 + (b.getD (at_ + j) 0).toNat
theorem four_lt {b : List Int} (hb : ∀ x ∈ b, 0 ≤ x ∧ x ≤ 255) (at_ : Nat) : ∀ j, four b at_ j < 256 ^ j
  | 0 => by simp [four]
  | j + 1 => by
    have ih := four_lt hb at_ j
    have hx : (b.getD (at_ + j) 0).toNat ≤ 255 := by
      by_cases h : at_ + j < b.length
      · have := hb b[at_ + j] (List.getElem_mem h)
        rw [List.getD, List.getElem?_eq_getElem h]
        simp
        omega
      · rw [List.getD, List.getElem?_eq_none (by omega)]
        simp
    simp only [four, Nat.pow_succ]
    omega
/-- The first n words of the block that begins at at_. -/
def words (b : List Int) (at_ : Nat) : Nat → List Wd
  | 0 => []
  | n + 1 => words b at_ n ++ [BitVec.ofNat 32 (four b (at_ + 4 * n) 4)]
theorem words_len (b : List Int) (at_ : Nat) : ∀ n, (words b at_ n).length = n
  | 0 => rfl
  | n + 1 => by simp [words, words_len b at_ n]
def block (ks h : List Wd) (b : List Int) (at_ : Nat) : List Wd := adds h (rounds ks (sched 48 (words b at_ 16)) h 64) 8
/-- The eight words behind n blocks. -/
def blocks (ks h : List Wd) (b : List Int) : Nat → List Wd
  | 0 => h
  | n + 1 => block ks (blocks ks h b n) b (64 * n)
/-- Words as bytes. -/
def out4 (w : Wd) : List Int := [((w.toNat / 16777216 : Nat) : Int), ((w.toNat / 65536 % 256 : Nat) : Int), ((w.toNat / 256 % 256 : Nat) : Int), ((w.toNat % 256 : Nat) : Int)]
theorem out4_eq (a : Wd) : [IntKind.u8.wrap (IntKind.u32.wrap ((wi a).tdiv 16777216)), IntKind.u8.wrap ((IntKind.u32.wrap ((wi a).tdiv 65536)).tmod 256), IntKind.u8.wrap ((IntKind.u32.wrap ((wi a).tdiv 256)).tmod 256), IntKind.u8.wrap ((wi a).tmod 256)] = out4 a := by
  have h := wi_bd a
  have e : wi a = (a.toNat : Int) := rfl
  unfold out4
  simp only [IntKind.wrap_u8', IntKind.wrap_u32', Int.tdiv_eq_ediv_of_nonneg h.1]
  rw [Int.tmod_eq_emod_of_nonneg (by omega), Int.tmod_eq_emod_of_nonneg (by omega), Int.tmod_eq_emod_of_nonneg h.1, e]
  simp only [List.cons.injEq, and_true]
  refine ⟨?_, ?_, ?_, ?_⟩ <;> omega
def outs (h : List Wd) : Nat → List Int
  | 0 => []
  | n + 1 => outs h n ++ out4 (wat h n)
end Go.Proofs.YtmkdbpdfonpfdaaDoor.Sha

/- Two slices of bytes that read alike are the same for the reference's Same: a contract over the program. -/
namespace Go.Proofs.YtmkdbpdfonpfdaaDoor
open Go.RowKit

set_option maxHeartbeats 800000 in
set_option maxRecDepth 100000 in
/-- Two slices that read alike are the same. -/
theorem same_yes (A A' : Option Addr) (n c c' B B' : Nat) (xs : List Int) (w : World) (hn : n ≤ 4398046511104) (h1 : Row .u8 w B A n xs) (h2 : Row .u8 w B' A' n xs) :
    Calls Tryd.prog 11 #[.slice A n c, .slice A' n c'] w fun e w' => e = .returned (.bool true) ∧ ∃ q, w' = w.drewN q := by
  have H1 := Lib.hid h1
  have H2 := Lib.hid h2
  clear h1 h2
  go_enter Tryd.func11, Tryd.ntmps11
  go_wp2
  go_loopw [5] (fun i wr => ∃ k q : Nat, k ≤ n ∧ i = .int .i64 (k : Int) ∧ Hid (wr = w.drewN q)) (fun i _ => n - (intOf i).toNat)
  case atStart => exact ⟨0, 0, Nat.zero_le _, rfl, rfl⟩
  case round =>
    obtain ⟨k, q, hk, rfl, hw⟩ := hrel
    obtain rfl := hw.out
    clear hw
    by_cases hlt : k < n
    · obtain ⟨b, o, rfl, _, hc1⟩ := H1.out.cell_at hlt
      obtain ⟨b', o', rfl, _, hc2⟩ := H2.out.cell_at hlt
      go_wp2
      go_quiet (fail)
      go_wp2
      go_roundw
      case rel => exact ⟨k + 1, _, by omega, by go_num, by unfold Hid; rfl⟩
      case measure => simp [intOf]; omega
    · go_wp2
      go_ret
      exact ⟨rfl, _, rfl⟩
end Go.Proofs.YtmkdbpdfonpfdaaDoor

/- Words of our own on memory, over any program: only the blocks of a set may have turned ('Only'); the append onto a row of one's own, told with the block in which the row lies behind it; an object of one block that holds a row of its own. -/
namespace Go.Proofs.YtmkdbpdfonpfdaaDoor
open Go.RowKit

/-- Of the blocks that were there only those in M may have turned. -/
structure Only (M : Nat → Prop) (w w' : World) : Prop where
  os : w'.os = w.os
  tape : w'.tape = w.tape
  output : w'.output = w.output
  size : w.heap.size ≤ w'.heap.size
  block : ∀ k, k < w.heap.size → ¬ M k → w'.heap[k]? = w.heap[k]?

section
variable {M M' : Nat → Prop} {w w' w'' : World} {B : Nat}
theorem Only.refl (M : Nat → Prop) (w : World) : Only M w w := ⟨rfl, rfl, rfl, Nat.le_refl _, fun _ _ _ => rfl⟩
theorem Only.trans (h : Only M w w') (k : Only M' w' w'') (hM : ∀ i, i < w.heap.size → M' i → M i) : Only M w w'' :=
  ⟨k.os.trans h.os, k.tape.trans h.tape, k.output.trans h.output, Nat.le_trans h.size k.size, fun i hi hn => (k.block i (Nat.lt_of_lt_of_le hi h.size) (fun hm => hn (hM i hi hm))).trans (h.block i hi hn)⟩
theorem Only.mono (h : Only M w w') (hM : ∀ i, M i → M' i) : Only M' w w' := ⟨h.os, h.tape, h.output, h.size, fun i hi hn => h.block i hi (fun m => hn (hM i m))⟩
theorem Only.of_below (h : Below w.heap.size w w') : Only M w w' := ⟨h.os, h.tape, h.output, h.size, fun i hi _ => h.block i hi⟩
theorem Only.below (h : Only M w w') (hB : B ≤ w.heap.size) (hM : ∀ k, M k → B ≤ k) : Below B w w' :=
  ⟨h.os, h.tape, h.output, h.size, fun i hi => h.block i (by omega) (fun m => by have := hM i m; omega)⟩
theorem Only.drew (h : Only M w w') : Only M w w'.drew := ⟨h.os, h.tape, h.output, h.size, h.block⟩
theorem Only.of_grown {row : Option Nat} (h : w.grownBy w' row) : Only (fun k => row = some k) w w' := ⟨h.os, h.tape, h.output, h.size, fun i hi hn => h.block i hi (fun e => hn e.symm)⟩
theorem Only.setCell (w : World) (a : Addr) (u : Value) : Only (fun k => k = a.block) w (w.setCell a u) :=
  ⟨rfl, rfl, rfl, by simp [World.setCell], fun i _ hn => Below.heap_setCell _ _ _ _ hn⟩
theorem Only.alloc (w : World) (o : Obj) : Only M w (w.alloc o) := Only.of_below ((Below.refl _ _).alloc (Nat.le_refl _) o)
theorem Only.at {o : Obj} {g : Nat} (h : Only M w w') (hg : w.heap[g]? = some o) (hn : ¬ M g) : w'.heap[g]? = some o :=
  (h.block g (Array.getElem?_eq_some_iff.1 hg).1 hn).trans hg
theorem Only.own {base n : Nat} {e : TypeId} {v : Value} {xs : List Value} (h : Only M w w') (ho : w.ownsRow base e 1 v n xs) (hn : ∀ k, v.ownBlock = some k → ¬ M k) : w'.ownsRow base e 1 v n xs := by
  refine ⟨ho.1, ?_⟩
  rcases ho.2 with h0 | ⟨g, cap, cur, rfl, h1, hg, rest⟩
  · exact .inl h0
  · exact .inr ⟨g, cap, cur, rfl, h1, h.at hg (hn g rfl), rest⟩
theorem Only.row {k : IntKind} {A : Option Addr} {n : Nat} {xs : List Int} (h : Only M w w') (hr : Row k w B A n xs) (hB : B ≤ w.heap.size) (hn : ∀ b o, A = some ⟨b, o, none⟩ → b < B → ¬ M b) : Row k w' B A n xs :=
  ⟨hr.1, fun h0 => by
    obtain ⟨b, o, e, hb, hc⟩ := hr.2 h0
    exact ⟨b, o, e, hb, fun j hj => (World.cell?_of_block (w := w) (h.block b (by omega) (hn b o e hb))).trans (hc j hj)⟩⟩
end

/-- Behind an append the row lies where it lay, or in a new block. -/
theorem append_lies {P : Program} (w : World) (base : Nat) (t ty e : TypeId) (i : TypeInfo) (z : Value) (size bytes : Nat) (ht : P.underlying t = some (.slice e)) (hi : P.info? e = some i) (hz : i.zero = some z)
    (hsize : i.size = size) (hby : i.bytes = bytes)
    (v : Value) (n : Nat) (xs : List Value) (hown : w.ownsRow base e size v n xs)
    (a : Addr) (m c : Nat) (news : List Value) (hl : news.length = m * size) (hnews : ∀ j u, news[j]? = some u → w.cell? (a.add j) = some u) (h1 : ∀ u ∈ news, u.oneCell' = true)
    (h63 : n + m ≤ maxLen) (hbytes : (n + m) * bytes ≤ 140737488355328) (v' : Value) (w' : World)
    (hrun : (Builtin.append_ #[t, t] ty #[v, .slice (some a) m c]).run P w = .ok v' w') : v'.ownBlock = v.ownBlock ∨ v'.ownBlock = some w.heap.size := by
  subst hsize
  subst hby
  have hsmall : n + m ≤ 9223372036854775807 := by simp only [maxLen] at h63; omega
  rcases hown.2 with ⟨rfl, rfl⟩ | ⟨g, cap, cur, rfl, hbg, hg, hnc, hcm, hcs, htake⟩
  · by_cases hm : m = 0
    · subst hm
      simp [Builtin.append_, run_underlying ht, sizeOf, typeInfo, hi, Builtin.lenOf, Builtin.firstCells, loadCells, loadCellsFrom] at hrun
      left; rw [← hrun.1]
    · have hr := run_append_nil (P := P) w t ty e i z ht hi hz a m c news hl hnews (by omega) (by omega) (by have hb := hbytes; simp only [Nat.zero_add] at hb; omega)
      rw [hr] at hrun
      injection hrun with e1 e2
      right; rw [← e1]; rfl
  · by_cases hroom : n + m ≤ cap
    · have hfit : n * i.size + news.length ≤ cur.size := by rw [hl, hcs, ← Nat.add_mul]; exact Nat.mul_le_mul_right _ hroom
      have hr := run_append_room (P := P) w t ty e i ht hi g n cap cur hg a m c news hl hnews h1 hroom hfit
      rw [hr] at hrun
      injection hrun with e1 e2
      left; rw [← e1]; rfl
    · have holds : ∀ j u, xs[j]? = some u → w.cell? ((⟨g, 0, none⟩ : Addr).add j) = some u := hown.cells (g := g) rfl
      have hr := run_append_grow (P := P) w t ty e i z ht hi hz ⟨g, 0, none⟩ n cap xs hown.1 holds a m c news hl hnews (by omega) (by omega) (growslice_fits (by omega) hbytes)
      rw [hr] at hrun
      injection hrun with e1 e2
      right; rw [← e1]; rfl

/-- 'append(out, ys...)' where the block matters: out is nil or one's own; ys reads as a row, nil let in. -/
theorem cat_mine {P : Program} {ops : Array Oper} {rest : List Oper} {o : Oper} {a : Act} {Q : Exit → Act → World → Prop} {w : World} (hgd : o.guard = none) (s x : Operand) (t : TypeId)
    (ho : o.op = .call { callee := .builtin .append, args := #[s, x], argTypes := #[t, t] })
    (base : Nat) (e : TypeId) (i : TypeInfo) (k : IntKind) (bytes : Nat) (ht : P.underlying t = some (.slice e)) (hi : P.info? e = some i) (hz : i.zero = some (.int k 0)) (hsize : i.size = 1) (hby : i.bytes = bytes)
    (v : Value) (n : Nat) (xs : List Int) (hs : a.eval s = v) (hown : w.ownsRow base e 1 v n (xs.map (Value.int k))) (B : Nat) (A : Option Addr) (m c : Nat) (ys : List Int) (hx : a.eval x = .slice A m c) (hnil : A = none → c = 0) (hr : Row k w B A m ys)
    (hn : n + m ≤ 4398046511104) (hb8 : bytes ≤ 8) (hbase : base ≤ w.heap.size)
    (h : ∀ v' w', w'.ownsRow base e 1 v' (n + m) ((xs ++ ys).map (Value.int k)) → w.grownBy w' v.ownBlock → (v'.ownBlock = v.ownBlock ∨ v'.ownBlock = some w.heap.size) → wpList P ops Q rest (a.put o.dst v') w') :
    wpList P ops Q (o :: rest) a w := by
  rcases A with _ | ad
  · have hm : m = 0 := by
      rcases Nat.eq_zero_or_pos m with h0 | h0
      · exact h0
      · obtain ⟨_, _, h1, _⟩ := hr.2 h0
        cases h1
    subst hm
    have hy : ys = [] := List.eq_nil_of_length_eq_zero hr.1
    subst hy
    rw [hnil rfl] at hx
    exact wpList_append_own_none hgd s x t ho base e i 1 ht hi v n _ hs hown hx (h v w (by simpa using hown) (World.grownBy.refl w _) (.inl rfl))
  · have hnews : ∀ j u, (ys.map (Value.int k))[j]? = some u → w.cell? (ad.add j) = some u := by
      intro j u hj
      have hjl : j < ys.length := by
        have := (List.getElem?_eq_some_iff.1 hj).1
        simpa using this
      have hl := hr.1
      obtain ⟨b, o, he, _, hc⟩ := hr.cell_at (show j < m by omega)
      injection he with he
      subst he
      have hadd : (⟨b, o, none⟩ : Addr).add j = ⟨b, o + j, none⟩ := by unfold Addr.add; split <;> simp_all
      rw [hadd, hc]
      simp only [List.getElem?_map, List.getElem?_eq_getElem hjl, Option.map_some, Option.some.injEq] at hj
      subst hj
      simp [List.getD, hjl]
    have h1 : ∀ u ∈ ys.map (Value.int k), u.oneCell' = true := by
      intro u hu
      obtain ⟨y, _, rfl⟩ := List.mem_map.1 hu
      rfl
    have hl : (ys.map (Value.int k)).length = m * 1 := by simp [hr.1]
    have h63 : n + m ≤ maxLen := by unfold maxLen; omega
    have hbb : (n + m) * bytes ≤ 140737488355328 := by have := Nat.mul_le_mul hn hb8; omega
    obtain ⟨v', w', hrun, h2, h3, _⟩ := run_append_own (P := P) w base t o.type e i (.int k 0) 1 bytes ht hi hz hsize hby rfl (by omega) v n _ hown ad m c _ hl hnews h1 h63 hbb hbase
    have h5 := append_lies (P := P) w base t o.type e i (.int k 0) 1 bytes ht hi hz hsize hby v n _ hown ad m c _ hl hnews h1 h63 hbb v' w' hrun
    refine wpList_plain hgd fun K hK => ?_
    unfold Oper.wp execOp
    simp only [ho, resolve, invoke, builtin, Sem.run_bind, Sem.run_pure, Result.andThen_ok, List.map_toArray, List.map_cons, List.map_nil, hs, hx, hrun]
    exact hK _ _ (h v' w' (by simpa using h2) h3 h5)

/-- A block of cells that may be written: what a cell of it holds, and what the block is behind a store. -/
theorem cell_of_blk {w : World} {b j : Nat} {cs : Array Value} {t : TypeId} {v : Value} (h : w.heap[b]? = some (.cells cs t (0, 0))) (hv : cs[j]? = some v) : w.cell? ⟨b, j, none⟩ = some v := by
  rw [cell_of_row w b j cs t (0, 0) h]; exact hv
theorem free_of_blk {w : World} {b j : Nat} {cs : Array Value} {t : TypeId} (h : w.heap[b]? = some (.cells cs t (0, 0))) : w.frozen? ⟨b, j, none⟩ = false := frozen_of_row w b j cs t h
theorem set_blk {w : World} {b j : Nat} {cs : Array Value} {t : TypeId} {u : Value} (h : w.heap[b]? = some (.cells cs t (0, 0))) : (w.setCell ⟨b, j, none⟩ u).heap[b]? = some (.cells (cs.setIfInBounds j u) t (0, 0)) := heap_setCell_same w b j cs t u h
end Go.Proofs.YtmkdbpdfonpfdaaDoor

/- Layer 7 (sha): the bytes with what comes behind; the reference's padded, as a contract. -/
namespace Go.Proofs.YtmkdbpdfonpfdaaDoor.Sha
open Go.RowKit

theorem info8 : (Tryd.prog.info? 5).map (fun i => (i.zero, i.size, i.bytes)) = some (some (.int .u8 0), 1, 1) := by kernel_rfl
theorem info32 : (Tryd.prog.info? 87).map (fun i => (i.zero, i.size, i.bytes)) = some (some (.int .u32 0), 1, 4) := by kernel_rfl
theorem parts_of {P : Program} {e : TypeId} {z : Value} {n m : Nat} (h : (P.info? e).map (fun i => (i.zero, i.size, i.bytes)) = some (some z, n, m)) : ∃ i, P.info? e = some i ∧ i.zero = some z ∧ i.size = n ∧ i.bytes = m := by
  cases hi : P.info? e with
  | none => rw [hi] at h; cases h
  | some i => rw [hi] at h; injection h with h; injection h with h1 h2; injection h2 with h2 h3; exact ⟨i, rfl, h1, h2, h3⟩

/-- How many zero bytes; numbers as bytes, the highest first; all of it. -/
def zeros (L : Nat) : Nat := (119 - L % 64) % 64
def be : Nat → Nat → List Int
  | 0, _ => []
  | i + 1, n => ((n / 256 ^ i % 256 : Nat) : Int) :: be i n
theorem be_len (n : Nat) : ∀ i, (be i n).length = i
  | 0 => rfl
  | i + 1 => by simp [be, be_len n i]
def stem (b : List Int) (j : Nat) : List Int := b ++ 128 :: List.replicate j 0
theorem stem_len (b : List Int) (j : Nat) : (stem b j).length = b.length + 1 + j := by simp [stem]; omega
theorem stem_next (b : List Int) (j : Nat) : stem b j ++ [0] = stem b (j + 1) := by
  unfold stem
  rw [List.append_assoc, List.cons_append, ← List.replicate_succ']
def pad (b : List Int) : List Int := stem b (zeros b.length) ++ be 8 (8 * b.length)
theorem zeros_le (L : Nat) : zeros L < 64 := by unfold zeros; omega
theorem zeros_end {L j : Nat} (hj : j ≤ zeros L) : (L + 1 + j) % 64 = 56 ↔ j = zeros L := by unfold zeros at *; omega
theorem pad_len (b : List Int) : (pad b).length = b.length + 9 + zeros b.length := by
  unfold pad
  rw [List.length_append, stem_len, be_len]
  omega
theorem pad_64 (b : List Int) : (pad b).length % 64 = 0 := by
  rw [pad_len]; unfold zeros; omega
theorem be_byt (n : Nat) : ∀ i, ∀ x ∈ be i n, 0 ≤ x ∧ x ≤ 255
  | 0, x, hx => by simp [be] at hx
  | i + 1, x, hx => by
    rcases List.mem_cons.1 hx with rfl | hx
    · omega
    · exact be_byt n i x hx
theorem pad_byt {b : List Int} (hb : ∀ x ∈ b, 0 ≤ x ∧ x ≤ 255) : ∀ x ∈ pad b, 0 ≤ x ∧ x ≤ 255 := by
  intro x hx
  unfold pad stem at hx
  simp only [List.mem_append, List.mem_cons, List.mem_replicate] at hx
  rcases hx with (hx | rfl | ⟨_, rfl⟩) | hx
  · exact hb x hx
  · omega
  · omega
  · exact be_byt _ _ x hx

/-- A slice's length. -/
def lenOf : Value → Nat
  | .slice _ n _ => n
  | _ => 0

set_option maxHeartbeats 1600000 in
set_option maxRecDepth 100000 in
theorem padded_any (A : Option Addr) (n c : Nat) (b : List Int) (w : World) (h : Row .u8 w w.heap.size A n b) (hnil : A = none → c = 0) (hn : n ≤ 1099511627776) :
    Calls Tryd.prog 97 #[.slice A n c] w fun e w' => ∃ v, e = .returned v ∧ w'.ownsRow w.heap.size 5 1 v (pad b).length ((pad b).map (Value.int .u8)) ∧ Below w.heap.size w w' := by
  obtain ⟨i0, hi, hz0, hz1, hz2⟩ := parts_of info8
  have H := Lib.hid h
  have HI := Lib.hid hnil
  have hlen := h.len
  have HL := Lib.hid hlen
  have HO : Hid (w.ownsRow w.heap.size 5 1 (.slice none 0 0) 0 (([] : List Int).map (Value.int .u8))) := World.ownsRow_nil _ _ _ _
  clear h hnil
  go_enter Tryd.func97, Tryd.ntmps97
  go_wp2_with (at_builtin; first
    | (refine cat_own rfl (.tmp 7) (.tmp 8) 29 rfl w.heap.size 5 i0 .u8 1 Tryd.underlying29 hi hz0 hz1 hz2 _ 0 [] rfl HO.out w.heap.size A n c b rfl HI.out H.out (by omega) (by omega) (Nat.le_refl _) ?_; intro v1 w1 hown1 hb1; have HO1 := Lib.hid hown1; have HB1 := Lib.hid hb1; clear hown1 hb1)
    | (refine push_own rfl (.tmp 10) (.tmp 11) 29 rfl w.heap.size 5 i0 .u8 1 Tryd.underlying29 hi hz0 hz1 hz2 _ (0 + n) ([] ++ b) 128 rfl HO1.out rfl (by omega) (by omega) HB1.out.size ?_; intro v2 w2 hown2 hb2; have HO2 := Lib.hid hown2; have HB2 := Lib.hid (HB1.out.trans hb2); clear hown2 hb2))
  have hst : Hid (w2.ownsRow w.heap.size 5 1 v2 (n + 1 + 0) ((stem b 0).map (Value.int .u8))) := by
    have := HO2.out
    have e : [] ++ b ++ [128] = stem b 0 := by simp [stem]
    rw [e, Nat.zero_add] at this
    exact this
  clear HO HO1 HO2 HB1
  go_loopw [3] (fun v wr => ∃ j : Nat, j ≤ zeros n ∧ Hid (wr.ownsRow w.heap.size 5 1 v (n + 1 + j) ((stem b j).map (Value.int .u8))) ∧ Hid (Below w.heap.size w wr)) (fun v _ => n + 100 - lenOf v)
  case atStart => exact ⟨0, Nat.zero_le _, hst, HB2⟩
  case round =>
    obtain ⟨j, hj, HO, HB⟩ := hrel
    have hz := zeros_le n
    have hze := zeros_end hj
    obtain ⟨A', c', rfl, -, -⟩ := own_slice HO.out
    by_cases hlt : j = zeros n
    case neg =>
      have hne : ¬ (n + 1 + j) % 64 = 56 := fun h => hlt (hze.1 h)
      have hb1 : (((n : Int) + 1 + (j : Int)) % 64 == 56) = false := beq_eq_false_iff_ne.2 (by omega)
      have hb3 : (((n : Int) + 1 + (j : Int)) % 64 != 56) = true := by rw [bne, hb1]; rfl
      go_wp2_with (at_builtin; refine push_own rfl (.tmp 17) (.tmp 18) 29 rfl w.heap.size 5 i0 .u8 1 Tryd.underlying29 hi hz0 hz1 hz2 _ (n + 1 + j) (stem b j) 0 rfl HO.out rfl (by omega) (by omega) HB.out.size ?_; intro v3 w3 hown3 hb3; have HO3 := Lib.hid hown3; have HB3 := Lib.hid (HB.out.trans hb3); clear hown3 hb3)
      go_roundw
      case rel => exact ⟨j + 1, by omega, by rw [← stem_next]; exact HO3.out, HB3.out⟩
      case measure =>
        obtain ⟨A3, c3, rfl, -, -⟩ := own_slice HO3.out
        simp only [lenOf]
        omega
    case pos =>
      have hne : (n + 1 + j) % 64 = 56 := hze.2 hlt
      have HZ := Lib.hid hlt
      have hb1 : (((n : Int) + 1 + (j : Int)) % 64 == 56) = true := beq_iff_eq.2 (by omega)
      have hb3 : (((n : Int) + 1 + (j : Int)) % 64 != 56) = false := by rw [bne, hb1]; rfl
      have hm8 : IntKind.i64.wrap (8 * (n : Int)) = ((8 * n : Nat) : Int) := by rw [IntWalk.i64_in _ ⟨by omega, by omega⟩]; omega
      have hj64 : j < 64 := by omega
      clear hz hze hlt hj
      go_wp2_with fail
      go_loopw [4, 5, 6] (fun m v i wr => ∃ k : Nat, k ≤ 8 ∧ i = .int .i64 (k : Int) ∧ m = .int .i64 ((8 * n / 256 ^ k : Nat) : Int) ∧ Hid (wr.ownsRow w.heap.size 5 1 v k ((be k (8 * n)).map (Value.int .u8))) ∧ Hid (wr.ownsRow w.heap.size 5 1 (.slice A' (n + 1 + j) c') (n + 1 + j) ((stem b j).map (Value.int .u8))) ∧ Hid (Below w.heap.size w wr)) (fun _ _ i _ => 8 - (intOf i).toNat)
      case atStart => exact ⟨0, by omega, rfl, by simp, World.ownsRow_nil _ _ _ _, HO, HB⟩
      case round =>
        obtain ⟨k, hk, rfl, rfl, HS, HO, HB⟩ := hrel
        by_cases hk8 : k < 8
        · have hkw : IntKind.i64.wrap ((k : Int) + 1) = (k : Int) + 1 := IntWalk.i64_in _ ⟨by omega, by omega⟩
          obtain ⟨m, hm⟩ : ∃ m, 8 * n / 256 ^ k = m := ⟨_, rfl⟩
          have hmb : m ≤ 8796093022208 := by
            rw [← hm]
            exact Nat.le_trans (Nat.div_le_self _ _) (by omega)
          have hm2 : 8 * n / 256 ^ (k + 1) = m / 256 := by rw [← hm, Nat.pow_succ, Nat.div_div_eq_div_mul]
          have hbe : be (k + 1) (8 * n) = ((m % 256 : Nat) : Int) :: be k (8 * n) := by simp only [be, hm]
          have HM2 := Lib.hid hm2
          have HBE := Lib.hid hbe
          rw [hm]
          have hc8 : IntKind.u8.wrap ((m : Int) % 256) = ((m % 256 : Nat) : Int) := by rw [IntKind.wrap_u8']; omega
          clear hm hm2 hbe
          obtain ⟨A5, c5, rfl, -, hnil5⟩ := own_slice HS.out
          have HN5 := Lib.hid hnil5
          clear hnil5
          have HLT : Hid ((wr.alloc (.cells #[.int .u8 ((m : Int) % 256)] 5)).ownsRow w.heap.size 5 1 (.slice (some ⟨wr.heap.size, 0, none⟩) 1 1) 1 (([(m : Int) % 256] : List Int).map (Value.int .u8))) := World.ownsRow_lit wr #[.int .u8 ((m : Int) % 256)] 1 HB.out.size (by unfold maxLen; omega) rfl
          have HBA := Lib.hid (HB.out.alloc HB.out.size (.cells #[.int .u8 ((m : Int) % 256)] 5))
          have HOA := Lib.hid (own_below HO.out ((Below.refl wr.heap.size wr).alloc (Nat.le_refl _) (.cells #[.int .u8 ((m : Int) % 256)] 5)))
          have HRA := Lib.hid ((Row.of_own HS.out).alloc (Nat.le_refl _) (.cells #[.int .u8 ((m : Int) % 256)] 5))
          go_wp2_with (at_builtin; refine cat_mine rfl (.tmp 30) (.tmp 31) 29 rfl w.heap.size 5 i0 .u8 1 Tryd.underlying29 hi hz0 hz1 hz2 _ 1 [(m : Int) % 256] rfl HLT.out wr.heap.size A5 k c5 (be k (8 * n)) rfl HN5.out HRA.out (by omega) (by omega) HBA.out.size ?_; intro v6 w6 hown6 hg6 hl6; have HS6 := Lib.hid hown6; have HG6 := Lib.hid hg6; clear hown6 hl6)
          have hO6 : Only (fun i => i = wr.heap.size) (wr.alloc (.cells #[.int .u8 ((m : Int) % 256)] 5)) w6 := (Only.of_grown HG6.out).mono (fun i h => by injection h with h; exact h.symm)
          have HO6 := Lib.hid (hO6.own HOA.out (fun i hi e => by have := (HO.out.lt i hi).2; omega))
          have hb6 : Below w.heap.size w w6 := HBA.out.trans (hO6.below HBA.out.size (fun i e => by have := HB.out.size; omega))
          go_roundw
          case rel =>
            refine ⟨k + 1, by omega, by go_num, ?_, ?_, HO6.out, hb6⟩
            · rw [HM2.out]; go_num
            · rw [HBE.out, Nat.add_comm k 1]
              exact HS6.out
          case measure => simp [intOf]; omega
        · have hk8' : k = 8 := by omega
          subst hk8'
          obtain ⟨A5, c5, rfl, -, hnil5⟩ := own_slice HS.out
          have HN5 := Lib.hid hnil5
          have HR5 := Lib.hid (Row.of_own HS.out)
          clear hnil5
          go_wp2_with (at_builtin; refine cat_own rfl (.tmp 35) (.tmp 36) 29 rfl w.heap.size 5 i0 .u8 1 Tryd.underlying29 hi hz0 hz1 hz2 _ (n + 1 + j) (stem b j) rfl HO.out wr.heap.size A5 8 c5 (be 8 (8 * n)) rfl HN5.out HR5.out (by omega) (by omega) HB.out.size ?_; intro v6 w6 hown6 hb6; have HS6 := Lib.hid hown6; have HB6 := Lib.hid (HB.out.trans hb6); clear hown6 hb6)
          go_ret
          refine ⟨v6, rfl, ?_, HB6.out⟩
          have e : pad b = stem b j ++ be 8 (8 * n) := by unfold pad; rw [HL.out, ← HZ.out]
          rw [e, List.length_append, stem_len, be_len, HL.out]
          exact HS6.out
end Go.Proofs.YtmkdbpdfonpfdaaDoor.Sha

/- SHA-256's constants and first words, as the published standard gives them; the reference's constants and begin, as contracts. -/
namespace Go.Proofs.YtmkdbpdfonpfdaaDoor.Sha
open Go.RowKit

def ks : List Wd := [0x428a2f98#32, 0x71374491#32, 0xb5c0fbcf#32, 0xe9b5dba5#32, 0x3956c25b#32, 0x59f111f1#32, 0x923f82a4#32, 0xab1c5ed5#32, 0xd807aa98#32, 0x12835b01#32, 0x243185be#32, 0x550c7dc3#32, 0x72be5d74#32, 0x80deb1fe#32, 0x9bdc06a7#32, 0xc19bf174#32, 0xe49b69c1#32, 0xefbe4786#32, 0x0fc19dc6#32, 0x240ca1cc#32, 0x2de92c6f#32, 0x4a7484aa#32, 0x5cb0a9dc#32, 0x76f988da#32, 0x983e5152#32, 0xa831c66d#32, 0xb00327c8#32, 0xbf597fc7#32, 0xc6e00bf3#32, 0xd5a79147#32, 0x06ca6351#32, 0x14292967#32, 0x27b70a85#32, 0x2e1b2138#32, 0x4d2c6dfc#32, 0x53380d13#32, 0x650a7354#32, 0x766a0abb#32, 0x81c2c92e#32, 0x92722c85#32, 0xa2bfe8a1#32, 0xa81a664b#32, 0xc24b8b70#32, 0xc76c51a3#32, 0xd192e819#32, 0xd6990624#32, 0xf40e3585#32, 0x106aa070#32, 0x19a4c116#32, 0x1e376c08#32, 0x2748774c#32, 0x34b0bcb5#32, 0x391c0cb3#32, 0x4ed8aa4a#32, 0x5b9cca4f#32, 0x682e6ff3#32, 0x748f82ee#32, 0x78a5636f#32, 0x84c87814#32, 0x8cc70208#32, 0x90befffa#32, 0xa4506ceb#32, 0xbef9a3f7#32, 0xc67178f2#32]
def hs : List Wd := [0x6a09e667#32, 0xbb67ae85#32, 0x3c6ef372#32, 0xa54ff53a#32, 0x510e527f#32, 0x9b05688c#32, 0x1f83d9ab#32, 0x5be0cd19#32]
theorem ks_len : ks.length = 64 := rfl
theorem hs_len : hs.length = 8 := rfl
/-- Words as values. -/
def wv (l : List Wd) : List Value := (l.map wi).map (Value.int .u32)
theorem wv_len (l : List Wd) : (wv l).length = l.length := by simp [wv]

set_option maxHeartbeats 1600000 in
set_option maxRecDepth 100000 in
theorem begin_any (w : World) : Calls Tryd.prog 96 #[] w fun e w' => ∃ v, e = .returned v ∧ w'.ownsRow w.heap.size 87 1 v 8 (wv hs) ∧ Below w.heap.size w w' := by
  go_enter Tryd.func96, Tryd.ntmps96
  go_wp2
  go_ret
  refine ⟨_, rfl, ?_, (Below.refl _ _).alloc (Nat.le_refl _) _⟩
  have e : wv hs = [.int .u32 1779033703, .int .u32 3144134277, .int .u32 1013904242, .int .u32 2773480762, .int .u32 1359893119, .int .u32 2600822924, .int .u32 528734635, .int .u32 1541459225] := rfl
  rw [e]
  exact World.ownsRow_lit w _ 8 (Nat.le_refl _) (by unfold maxLen; omega) rfl

set_option maxHeartbeats 1600000 in
set_option maxRecDepth 100000 in
theorem constants_any (w : World) : Calls Tryd.prog 95 #[] w fun e w' => ∃ v, e = .returned v ∧ w'.ownsRow w.heap.size 87 1 v 64 (wv ks) ∧ Below w.heap.size w w' := by
  go_enter Tryd.func95, Tryd.ntmps95
  go_wp2
  go_ret
  refine ⟨_, rfl, ?_, (Below.refl _ _).alloc (Nat.le_refl _) _⟩
  have e : wv ks = [.int .u32 1116352408, .int .u32 1899447441, .int .u32 3049323471, .int .u32 3921009573, .int .u32 961987163, .int .u32 1508970993, .int .u32 2453635748, .int .u32 2870763221, .int .u32 3624381080, .int .u32 310598401, .int .u32 607225278, .int .u32 1426881987, .int .u32 1925078388, .int .u32 2162078206, .int .u32 2614888103, .int .u32 3248222580, .int .u32 3835390401, .int .u32 4022224774, .int .u32 264347078, .int .u32 604807628, .int .u32 770255983, .int .u32 1249150122, .int .u32 1555081692, .int .u32 1996064986, .int .u32 2554220882, .int .u32 2821834349, .int .u32 2952996808, .int .u32 3210313671, .int .u32 3336571891, .int .u32 3584528711, .int .u32 113926993, .int .u32 338241895, .int .u32 666307205, .int .u32 773529912, .int .u32 1294757372, .int .u32 1396182291, .int .u32 1695183700, .int .u32 1986661051, .int .u32 2177026350, .int .u32 2456956037, .int .u32 2730485921, .int .u32 2820302411, .int .u32 3259730800, .int .u32 3345764771, .int .u32 3516065817, .int .u32 3600352804, .int .u32 4094571909, .int .u32 275423344, .int .u32 430227734, .int .u32 506948616, .int .u32 659060556, .int .u32 883997877, .int .u32 958139571, .int .u32 1322822218, .int .u32 1537002063, .int .u32 1747873779, .int .u32 1955562222, .int .u32 2024104815, .int .u32 2227730452, .int .u32 2361852424, .int .u32 2428436474, .int .u32 2756734187, .int .u32 3204031479, .int .u32 3329325298] := rfl
  rw [e]
  exact World.ownsRow_lit w _ 64 (Nat.le_refl _) (by unfold maxLen; omega) rfl
end Go.Proofs.YtmkdbpdfonpfdaaDoor.Sha

/- Layer 7 (sha): the chapter's example, computed. -/
namespace Go.Proofs.YtmkdbpdfonpfdaaDoor.Sha
open Go.RowKit

/-- The hash value of the bytes b, as the published standard has it. -/
def sum256 (b : List Int) : List Int := outs (blocks ks hs (pad b) ((pad b).length / 64)) 8
theorem sum256_len (b : List Int) : (sum256 b).length = 32 := by
  have h : ∀ (l : List Wd) n, (outs l n).length = 4 * n := by
    intro l n
    induction n with
    | zero => rfl
    | succ n ih => rw [outs, List.length_append, ih]; simp [out4]; omega
  exact h _ 8
set_option maxRecDepth 1000000 in
theorem abc : sum256 [97, 98, 99] = [186, 120, 22, 191, 143, 1, 207, 234, 65, 65, 64, 222, 93, 174, 34, 35, 176, 3, 97, 163, 150, 23, 122, 156, 180, 16, 255, 97, 242, 0, 21, 173] := by decide +kernel
end Go.Proofs.YtmkdbpdfonpfdaaDoor.Sha

/- HMAC-SHA-256 as plain mathematics; no program's text is named here. -/
namespace Go.Proofs.YtmkdbpdfonpfdaaDoor.Hmc
open Go.RowKit Sha

/-- Two bytes by exclusive or. -/
def xr (x y : Int) : Int := ((x.toNat ^^^ y.toNat : Nat) : Int)
theorem xr_byt (x y : Int) (hx : 0 ≤ x ∧ x ≤ 255) (hy : 0 ≤ y ∧ y ≤ 255) : 0 ≤ xr x y ∧ xr x y ≤ 255 := by
  unfold xr
  have : x.toNat ^^^ y.toNat < 2 ^ 8 := Nat.xor_lt_two_pow (by omega) (by omega)
  omega
theorem xr_zero {y : Int} (hy : 0 ≤ y) : xr 0 y = y := by
  unfold xr
  simp
  omega
theorem xr_bits (x y : Int) (hx : 0 ≤ x ∧ x ≤ 255) (hy : 0 ≤ y ∧ y ≤ 255) : bits .xor .u8 x y = xr x y := by
  unfold xr
  exact u8_xor x y hx.1 (by omega) hy.1 (by omega)
/-- The first n bytes of a key k that is filled up, each combined with m. -/
def pre (k : List Int) (m : Int) : Nat → List Int
  | 0 => []
  | n + 1 => pre k m n ++ [xr (k.getD n 0) m]
theorem pre_len (k : List Int) (m : Int) : ∀ n, (pre k m n).length = n
  | 0 => rfl
  | n + 1 => by rw [pre, List.length_append, pre_len k m n]; rfl
theorem getD_byt {k : List Int} (hk : ∀ x ∈ k, 0 ≤ x ∧ x ≤ 255) (n : Nat) : 0 ≤ k.getD n 0 ∧ k.getD n 0 ≤ 255 := by
  by_cases h : n < k.length
  · have := hk k[n] (List.getElem_mem h)
    simpa [List.getD, h] using this
  · simp [List.getD, List.getElem?_eq_none (by omega : k.length ≤ n)]
theorem pre_byt {k : List Int} {m : Int} (hk : ∀ x ∈ k, 0 ≤ x ∧ x ≤ 255) (hm : 0 ≤ m ∧ m ≤ 255) : ∀ n, ∀ x ∈ pre k m n, 0 ≤ x ∧ x ≤ 255
  | 0, x, hx => by simp [pre] at hx
  | n + 1, x, hx => by
    rw [pre, List.mem_append] at hx
    rcases hx with hx | hx
    · exact pre_byt hk hm n x hx
    · rw [List.mem_singleton] at hx
      subst hx
      exact xr_byt _ _ (getD_byt hk n) hm
theorem sum256_byt (b : List Int) : ∀ x ∈ sum256 b, 0 ≤ x ∧ x ≤ 255 := by
  have h : ∀ (l : List Wd) n, ∀ x ∈ outs l n, 0 ≤ x ∧ x ≤ 255 := by
    intro l n
    induction n with
    | zero => intro x hx; simp [outs] at hx
    | succ n ih =>
      intro x hx
      rw [outs, List.mem_append] at hx
      rcases hx with hx | hx
      · exact ih x hx
      · have := (wat l n).isLt
        simp only [out4, List.mem_cons, List.not_mem_nil, or_false] at hx
        rcases hx with rfl | rfl | rfl | rfl <;> omega
  exact h _ 8
/-- The key as it is used. -/
def ky (k : List Int) : List Int := if 64 < k.length then sum256 k else k
theorem ky_byt {k : List Int} (hk : ∀ x ∈ k, 0 ≤ x ∧ x ≤ 255) : ∀ x ∈ ky k, 0 ≤ x ∧ x ≤ 255 := by
  unfold ky
  split
  · exact sum256_byt k
  · exact hk
theorem ky_len (k : List Int) : (ky k).length ≤ 64 := by
  unfold ky
  split
  · rw [sum256_len]; omega
  · omega
def blk (k : List Int) (m : Int) : List Int := pre (ky k) m 64
theorem blk_len (k : List Int) (m : Int) : (blk k m).length = 64 := pre_len _ _ _
theorem blk_byt {k : List Int} {m : Int} (hk : ∀ x ∈ k, 0 ≤ x ∧ x ≤ 255) (hm : 0 ≤ m ∧ m ≤ 255) : ∀ x ∈ blk k m, 0 ≤ x ∧ x ≤ 255 := pre_byt (ky_byt hk) hm 64
/-- The tag of b under the key k. -/
def mac (k b : List Int) : List Int := sum256 (blk k 92 ++ sum256 (blk k 54 ++ b))
theorem mac_len (k b : List Int) : (mac k b).length = 32 := sum256_len _
/-- Noughts behind a short key make no difference; a long one is its sum. -/
theorem pre_noughts (k : List Int) (m : Int) (j : Nat) : ∀ n, pre (k ++ List.replicate j 0) m n = pre k m n
  | 0 => rfl
  | n + 1 => by
    rw [pre, pre, pre_noughts k m j n]
    have e : (k ++ List.replicate j 0).getD n 0 = k.getD n 0 := by
      simp only [List.getD]
      by_cases h : n < k.length
      · rw [List.getElem?_append_left h]
      · rw [List.getElem?_append_right (by omega), List.getElem?_eq_none (by omega : k.length ≤ n)]
        by_cases h2 : n - k.length < j
        · simp [h2]
        · simp [h2]
    rw [e]
theorem blk_noughts (k : List Int) (m : Int) (j : Nat) (h : k.length + j ≤ 64) : blk (k ++ List.replicate j 0) m = blk k m := by
  unfold blk ky
  rw [if_neg (by simp; omega), if_neg (by omega), pre_noughts]
theorem blk_sum (k : List Int) (m : Int) (h : 64 < k.length) : blk (sum256 k) m = blk k m := by
  unfold blk ky
  rw [if_neg (by rw [sum256_len]; omega), if_pos h]
theorem mac_noughts (k b : List Int) (j : Nat) (h : k.length + j ≤ 64) : mac (k ++ List.replicate j 0) b = mac k b := by
  unfold mac
  rw [blk_noughts k _ j h, blk_noughts k _ j h]
theorem mac_sum (k b : List Int) (h : 64 < k.length) : mac (sum256 k) b = mac k b := by
  unfold mac
  rw [blk_sum k _ h, blk_sum k _ h]
set_option maxRecDepth 1000000 in
theorem jefe : mac [74, 101, 102, 101] [119, 104, 97, 116, 32, 100, 111, 32, 121, 97, 32, 119, 97, 110, 116, 32, 102, 111, 114, 32, 110, 111, 116, 104, 105, 110, 103, 63] = [91, 220, 193, 70, 191, 96, 117, 78, 106, 4, 36, 38, 8, 149, 117, 199, 90, 0, 63, 8, 157, 39, 57, 131, 157, 236, 88, 185, 100, 236, 56, 67] := by decide +kernel
/-- A string's bytes as numbers. -/
def sby (s : ByteArray) : List Int := s.data.toList.map fun x => (x.toNat : Int)
theorem sby_len (s : ByteArray) : (sby s).length = s.size := by
  unfold sby
  rw [List.length_map]
  rfl
theorem sby_byt (s : ByteArray) : ∀ x ∈ sby s, 0 ≤ x ∧ x ≤ 255 := fun x hx => by
  unfold sby at hx
  obtain ⟨y, _, rfl⟩ := List.mem_map.1 hx
  have := y.toNat_lt
  omega
end Go.Proofs.YtmkdbpdfonpfdaaDoor.Hmc

/- Layer 9 (ring) as plain mathematics; no program's text is named here. -/
namespace Go.Proofs.YtmkdbpdfonpfdaaDoor.Rg
open Go.RowKit Sha Hmc

/-- A key: its epoch and its bytes. -/
abbrev Kl := Int × List Int
/-- Four bytes, the highest first; an epoch's key. -/
def be4 (e : Int) : List Int := [e / 16777216, e / 65536 % 256, e / 256 % 256, e % 256]
def epo : List Int := [101, 112, 111, 99, 104]
def keyOf (d : List Int) (e : Int) : List Int := mac d (epo ++ 0 :: be4 e)
theorem be4_byt {e : Int} (h : 0 ≤ e ∧ e ≤ 16777216) : ∀ x ∈ be4 e, 0 ≤ x ∧ x ≤ 255 := by
  intro x hx
  simp only [be4, List.mem_cons, List.not_mem_nil, or_false] at hx
  rcases hx with rfl | rfl | rfl | rfl <;> omega
theorem keyOf_len (d : List Int) (e : Int) : (keyOf d e).length = 32 := mac_len _ _
theorem keyOf_byt (d : List Int) (e : Int) : ∀ x ∈ keyOf d e, 0 ≤ x ∧ x ≤ 255 := sum256_byt _
/-- Is the key at place j right? -/
def gd (E : List Kl) (j : Nat) (k : Kl) : Prop := k.2.length = 32 ∧ 1 ≤ k.1 ∧ k.1 ≤ 1048576 ∧ (0 < j → ∀ q, E[j - 1]? = some q → k.1 = q.1 + 1)
def RtP (keep : Int) (E : List Kl) : Prop := 1 ≤ keep ∧ keep ≤ 16 ∧ 1 ≤ E.length ∧ (E.length : Int) ≤ keep ∧ ∀ j k, E[j]? = some k → gd E j k
open Classical in
noncomputable def rt (keep : Int) (E : List Kl) : Bool := decide (RtP keep E)
theorem rt_true {keep : Int} {E : List Kl} : rt keep E = true ↔ RtP keep E := by unfold rt; exact @decide_eq_true_iff _ (Classical.propDecidable _)
theorem rt_yes {keep : Int} {E : List Kl} (h : RtP keep E) : rt keep E = true := rt_true.2 h
theorem rt_no {keep : Int} {E : List Kl} (h : ¬ RtP keep E) : rt keep E = false := by
  cases e : rt keep E with
  | false => rfl
  | true => exact absurd (rt_true.1 e) h
/-- The last epoch; the key of an epoch. -/
def now (E : List Kl) : Int := (E.getLast?.map (·.1)).getD 0
def fnd (E : List Kl) (e : Int) : Option (List Int) := (E.find? (fun k => k.1 == e)).map (·.2)
/-- What is kept, and the key of the next epoch. -/
def rot (keep : Int) (E : List Kl) (d : List Int) : List Kl := E.drop (E.length + 1 - keep.toNat) ++ [(now E + 1, keyOf d (now E + 1))]
theorem now_snoc (E : List Kl) (k : Kl) : now (E ++ [k]) = k.1 := by simp [now]
theorem now_rot (keep : Int) (E : List Kl) (d : List Int) : now (rot keep E d) = now E + 1 := now_snoc _ _
theorem now_at {E : List Kl} {k : Kl} (h : E[E.length - 1]? = some k) : now E = k.1 := by
  unfold now
  rw [List.getLast?_eq_getElem?, h]
  rfl
theorem rot_len (keep : Int) (E : List Kl) (d : List Int) : (rot keep E d).length = E.length - (E.length + 1 - keep.toNat) + 1 := by simp [rot]
/-- Epochs of what is right rise by one. -/
theorem rt_at {keep : Int} {E : List Kl} (h : RtP keep E) : ∀ {j : Nat} {k q : Kl}, E[j]? = some k → E[0]? = some q → k.1 = q.1 + j
  | 0, k, q, hk, hq => by
    rw [hk] at hq
    injection hq with hq
    subst hq
    simp
  | j + 1, k, q, hk, hq => by
    have hj : j < E.length := by
      have := (List.getElem?_eq_some_iff.1 hk).1
      omega
    have h1 := (h.2.2.2.2 (j + 1) k hk).2.2.2 (by omega) E[j] (List.getElem?_eq_getElem hj)
    have h2 := rt_at h (List.getElem?_eq_getElem hj) hq
    omega
theorem rt_one {keep : Int} (h : 1 ≤ keep ∧ keep ≤ 16) (d : List Int) : RtP keep [(1, keyOf d 1)] := by
  refine ⟨h.1, h.2, by simp, by simp; omega, fun j k hk => ?_⟩
  have hj : j = 0 := by
    have := (List.getElem?_eq_some_iff.1 hk).1
    simpa using this
  subst hj
  simp at hk
  subst hk
  exact ⟨keyOf_len _ _, by simp, by simp, fun h => absurd h (by omega)⟩
theorem now_le {keep : Int} {E : List Kl} (h : RtP keep E) : 1 ≤ now E ∧ now E ≤ 1048576 := by
  have hl := h.2.2.1
  have hk : E[E.length - 1]? = some (E[E.length - 1]'(by omega)) := List.getElem?_eq_getElem (by omega)
  rw [now_at hk]
  obtain ⟨_, h1, h2, _⟩ := h.2.2.2.2 _ _ hk
  exact ⟨h1, h2⟩
/-- What is rotated is right. -/
theorem rt_rot {keep : Int} {E : List Kl} (h : RtP keep E) (hn : now E < 1048576) (d : List Int) : RtP keep (rot keep E d) := by
  have hl := h.2.2.1
  have hn1 := now_le h
  have hkl := h.2.2.2.1
  have hk1 := h.1
  obtain ⟨D, hD⟩ : ∃ D, E.length + 1 - keep.toNat = D := ⟨_, rfl⟩
  have hdl : (E.drop D).length = E.length - D := by simp
  refine ⟨h.1, h.2.1, by rw [rot_len]; omega, by rw [rot_len]; omega, fun j k hk => ?_⟩
  unfold rot at hk ⊢
  rw [hD] at hk ⊢
  have hat : ∀ i q, (E.drop D ++ [(now E + 1, keyOf d (now E + 1))])[i]? = some q → (i < E.length - D ∧ E[D + i]? = some q) ∨ (i = E.length - D ∧ q = (now E + 1, keyOf d (now E + 1))) := by
    intro i q hq
    by_cases hi : i < E.length - D
    · rw [List.getElem?_append_left (by omega), List.getElem?_drop] at hq
      exact .inl ⟨hi, hq⟩
    · rw [List.getElem?_append_right (by omega), hdl] at hq
      have h0 : i - (E.length - D) = 0 := by
        have := (List.getElem?_eq_some_iff.1 hq).1
        simpa using this
      rw [h0] at hq
      simp at hq
      exact .inr ⟨by omega, hq.symm⟩
  rcases hat j k hk with ⟨hj, hk⟩ | ⟨hj, rfl⟩
  · obtain ⟨h1, h2, h3, h4⟩ := h.2.2.2.2 _ _ hk
    refine ⟨h1, h2, h3, fun h0 q hq => ?_⟩
    rcases hat _ _ hq with ⟨_, hq⟩ | ⟨h5, _⟩
    · exact h4 (by omega) q (by rw [show D + j - 1 = D + (j - 1) by omega]; exact hq)
    · omega
  · refine ⟨keyOf_len _ _, by simp only; omega, by simp only; omega, fun h0 q hq => ?_⟩
    rcases hat _ _ hq with ⟨_, hq⟩ | ⟨h5, _⟩
    · rw [now_at (k := q) (by rw [show E.length - 1 = D + (j - 1) by omega]; exact hq)]
    · omega
/-- The key of an epoch that is there. -/
theorem fnd_at {keep : Int} {E : List Kl} (h : RtP keep E) {j : Nat} {k : Kl} (hk : E[j]? = some k) : fnd E k.1 = some k.2 := by
  have hj := (List.getElem?_eq_some_iff.1 hk).1
  have h0 : E[0]? = some (E[0]'(by omega)) := List.getElem?_eq_getElem (by omega)
  have hex : (E.find? (fun q => q.1 == k.1)).isSome = true := by
    rw [List.find?_isSome]
    exact ⟨k, List.mem_of_getElem? hk, by simp⟩
  obtain ⟨q, hq⟩ := Option.isSome_iff_exists.1 hex
  have hqe : q.1 = k.1 := by simpa using List.find?_some hq
  obtain ⟨i, hi⟩ := List.getElem?_of_mem (List.mem_of_find?_eq_some hq)
  have e1 := rt_at h hi h0
  have e2 := rt_at h hk h0
  have e : i = j := by omega
  subst e
  rw [hi] at hk
  injection hk with hk
  subst hk
  unfold fnd
  rw [hq]
  rfl
theorem fnd_hit : ∀ {E : List Kl} {t : Nat} {k : Kl} {e : Int}, E[t]? = some k → k.1 = e → (∀ (j : Nat) (q : Kl), j < t → E[j]? = some q → q.1 ≠ e) → fnd E e = some k.2
  | [], _, _, _, h, _, _ => by simp at h
  | u :: E, 0, k, e, h, he, _ => by
    simp at h
    subst h
    simp [fnd, he]
  | u :: E, t + 1, k, e, h, he, hn => by
    have h0 := hn 0 u (by omega) (by simp)
    have := fnd_hit (E := E) (t := t) (k := k) (e := e) (by simpa using h) he (fun j q hj hq => hn (j + 1) q (by omega) (by simpa using hq))
    unfold fnd at *
    rw [List.find?_cons_of_neg (by simpa using h0)]
    exact this
theorem fnd_miss {E : List Kl} {e : Int} (hn : ∀ (j : Nat) (q : Kl), E[j]? = some q → q.1 ≠ e) : fnd E e = none := by
  unfold fnd
  rw [List.find?_eq_none.2 (fun q hq => by
    obtain ⟨j, hj⟩ := List.getElem?_of_mem hq
    simpa using hn j q hj)]
  rfl
/-- What stays was there. -/
theorem rot_keeps {keep : Int} {E : List Kl} (h : RtP keep E) (d : List Int) {j : Nat} {k : Kl} (hj : j + 1 < (rot keep E d).length) (hk : (rot keep E d)[j]? = some k) : fnd E k.1 = some k.2 := by
  rw [rot_len] at hj
  unfold rot at hk
  rw [List.getElem?_append_left (by simp; omega), List.getElem?_drop] at hk
  exact fnd_at h hk
end Go.Proofs.YtmkdbpdfonpfdaaDoor.Rg

/- Slices of bytes among others, over any program: a slice of them as a list of parts. -/
namespace Go.Proofs.YtmkdbpdfonpfdaaDoor.Slc
open Go.RowKit

/-- A slice of bytes among others: where it lies, its length, its capacity, what it reads as. -/
structure Part where
  A : Option Addr
  n : Nat
  c : Nat
  xs : List Int
def Part.v (p : Part) : Value := .slice p.A p.n p.c
def Part.Right (w : World) (B : Nat) (p : Part) : Prop := Row .u8 w B p.A p.n p.xs ∧ (p.A = none → p.c = 0)
def total (L : List Part) : Nat := (L.map (·.n)).sum
def whole (L : List Part) : List Int := L.flatMap (·.xs)
theorem total_next {L : List Part} {i : Nat} (h : i < L.length) : total (L.take (i + 1)) = total (L.take i) + (L[i]).n := by
  unfold total; rw [List.take_succ_eq_append_getElem h, List.map_append, List.sum_append]; simp only [List.map_cons, List.map_nil, List.sum_cons, List.sum_nil, Nat.add_zero]
theorem whole_next {L : List Part} {i : Nat} (h : i < L.length) : whole (L.take (i + 1)) = whole (L.take i) ++ (L[i]).xs := by
  unfold whole; rw [List.take_succ_eq_append_getElem h, List.flatMap_append]; simp only [List.flatMap_cons, List.flatMap_nil, List.append_nil]
theorem total_le (L : List Part) (i : Nat) : total (L.take i) ≤ total L := by
  have : total L = total (L.take i) + total (L.drop i) := by
    unfold total; rw [← List.sum_append, ← List.map_append, List.take_append_drop]
  omega
theorem whole_len {w : World} {B : Nat} : ∀ {L : List Part}, (∀ p ∈ L, p.Right w B) → (whole L).length = total L
  | [], _ => rfl
  | p :: L, h => by
    have h1 := (h p (by simp)).1.1
    have h2 := whole_len (L := L) (fun q hq => h q (by simp [hq]))
    simp only [whole, total, List.flatMap_cons, List.length_append, List.map_cons, List.sum_cons] at *
    omega

/-- The slice '.slice A n c' of slices reads as the parts L, which are bytes; all lies below block B; nil is let in. -/
structure Prs (w : World) (B : Nat) (A : Option Addr) (n : Nat) (L : List Part) : Prop where
  len : L.length = n
  at_ : 0 < n → ∃ b o, A = some ⟨b, o, none⟩ ∧ b < B ∧ ∀ j (h : j < L.length), w.cell? ⟨b, o + j, none⟩ = some (L[j]).v
  right : ∀ p ∈ L, p.Right w B
  byt : ∀ p ∈ L, p.n ≤ p.c ∧ ∀ x ∈ p.xs, 0 ≤ x ∧ x ≤ 255
section
variable {w w' : World} {B B' n : Nat} {A : Option Addr} {L : List Part}
theorem Prs.below (h : Prs w B A n L) (hb : Below B w w') : Prs w' B A n L :=
  ⟨h.len, fun hn => by
    obtain ⟨b, o, e, h1, h2⟩ := h.at_ hn
    exact ⟨b, o, e, h1, fun j hj => (hb.cell (p := ⟨b, o + j, none⟩) h1).trans (h2 j hj)⟩, fun p hp => ⟨(h.right p hp).1.below hb, (h.right p hp).2⟩, h.byt⟩
theorem Prs.more (h : Prs w B A n L) (hB : B ≤ B') : Prs w B' A n L :=
  ⟨h.len, fun hn => by
    obtain ⟨b, o, e, h1, h2⟩ := h.at_ hn
    exact ⟨b, o, e, by omega, h2⟩, fun p hp => ⟨(h.right p hp).1.more hB, (h.right p hp).2⟩, h.byt⟩
theorem Prs.whole_byt (h : Prs w B A n L) : ∀ x ∈ whole L, 0 ≤ x ∧ x ≤ 255 := fun x hx => by
  obtain ⟨p, hp, hx⟩ := List.mem_flatMap.1 hx
  exact (h.byt p hp).2 x hx
/-- A block made of the parts' slices. -/
theorem Prs.of_blk {g : Nat} {cs : Array Value} {t : TypeId} {fr : Nat × Nat} (hg : w.heap[g]? = some (.cells cs t fr)) (hB : g < B) (hcs : cs.toList = L.map Part.v) (hr : ∀ p ∈ L, p.Right w B) (hb : ∀ p ∈ L, p.n ≤ p.c ∧ ∀ x ∈ p.xs, 0 ≤ x ∧ x ≤ 255) : Prs w B (some ⟨g, 0, none⟩) L.length L :=
  ⟨rfl, fun _ => ⟨g, 0, rfl, hB, fun j hj => by
    rw [Nat.zero_add, cell_of_row w g j cs t fr hg]
    have : cs[j]? = cs.toList[j]? := by simp
    rw [this, hcs]
    simp [hj]⟩, hr, hb⟩
end
end Go.Proofs.YtmkdbpdfonpfdaaDoor.Slc

/- Slices of structs of a number and a slice of bytes (keys of epochs), over any program. -/
namespace Go.Proofs.YtmkdbpdfonpfdaaDoor.Rg
open Go.RowKit Slc

/-- A key in memory: its epoch, and its bytes' slice. -/
structure Kp where
  e : Int
  p : Part
def Kp.cells (k : Kp) : Array Value := #[.int .i64 k.e, k.p.v]
def Kp.val (k : Kp) : Value := .agg k.cells
def Kp.l (k : Kp) : Int × List Int := (k.e, k.p.xs)
structure Kp.Ok (k : Kp) (w : World) (B : Nat) : Prop where
  right : k.p.Right w B
  le : k.p.n ≤ k.p.c
  byt : ∀ x ∈ k.p.xs, 0 ≤ x ∧ x ≤ 255
  lo : -9223372036854775808 ≤ k.e
  hi : k.e ≤ 9223372036854775807
theorem Kp.Ok.below {k : Kp} {w w' : World} {B : Nat} (h : k.Ok w B) (hb : Below B w w') : k.Ok w' B := ⟨⟨h.right.1.below hb, h.right.2⟩, h.le, h.byt, h.lo, h.hi⟩
theorem Kp.Ok.more {k : Kp} {w : World} {B B' : Nat} (h : k.Ok w B) (hB : B ≤ B') : k.Ok w B' := ⟨⟨h.right.1.more hB, h.right.2⟩, h.le, h.byt, h.lo, h.hi⟩
theorem Kp.Ok.len {k : Kp} {w : World} {B : Nat} (h : k.Ok w B) : k.p.xs.length = k.p.n := h.right.1.1
/-- The cells of many. -/
def kflat (K : List Kp) : List Value := K.flatMap fun k => [.int .i64 k.e, k.p.v]
theorem kflat_len (K : List Kp) : (kflat K).length = K.length * 2 := by
  induction K with
  | nil => rfl
  | cons s ss ih => simp only [kflat, List.flatMap_cons, List.length_append, List.length_cons, List.length_nil] at ih ⊢; omega
theorem kflat_snoc (K : List Kp) (k : Kp) : kflat (K ++ [k]) = kflat K ++ [.int .i64 k.e, k.p.v] := by simp [kflat]
theorem kflat_at : ∀ {K : List Kp} {j : Nat} {k : Kp}, K[j]? = some k → ∀ i, i < 2 → (kflat K)[j * 2 + i]? = k.cells[i]?
  | [], _, _, h, _, _ => by simp at h
  | u :: K, 0, k, h, i, hi => by
    simp at h
    subst h
    match i, hi with
    | 0, _ => rfl
    | 1, _ => rfl
  | u :: K, j + 1, k, h, i, hi => by
    have h' : K[j]? = some k := by simpa using h
    have := kflat_at h' i hi
    have e : (j + 1) * 2 + i = (j * 2 + i) + 2 := by omega
    rw [e]
    simpa [kflat] using this

/-- The slice '.slice A n c' reads as the keys K, below block B; nil is let in. -/
structure KRow (w : World) (B : Nat) (A : Option Addr) (n : Nat) (K : List Kp) : Prop where
  len : K.length = n
  ok : ∀ k ∈ K, k.Ok w B
  at_ : 0 < n → ∃ b o, A = some ⟨b, o, none⟩ ∧ b < B ∧ ∀ j k, K[j]? = some k → ∀ i, i < 2 → w.cell? ⟨b, o + j * 2 + i, none⟩ = k.cells[i]?
section
variable {w w' : World} {B B' n : Nat} {A : Option Addr} {K : List Kp}
theorem KRow.below (h : KRow w B A n K) (hb : Below B w w') : KRow w' B A n K :=
  ⟨h.len, fun k hk => (h.ok k hk).below hb, fun hn => by
    obtain ⟨b, o, e, hlt, hc⟩ := h.at_ hn
    exact ⟨b, o, e, hlt, fun j f hj i hi => (hb.cell (by exact hlt)).trans (hc j f hj i hi)⟩⟩
theorem KRow.more (h : KRow w B A n K) (hB : B ≤ B') : KRow w B' A n K :=
  ⟨h.len, fun k hk => (h.ok k hk).more hB, fun hn => by
    obtain ⟨b, o, e, hlt, hc⟩ := h.at_ hn
    exact ⟨b, o, e, by omega, hc⟩⟩
theorem KRow.at (h : KRow w B A n K) {j : Nat} (hj : j < n) : ∃ b o k, A = some ⟨b, o, none⟩ ∧ b < B ∧ K[j]? = some k ∧ k.Ok w B ∧ w.cell? ⟨b, o + j * 2, none⟩ = some (.int .i64 k.e) ∧ w.cell? ⟨b, o + j * 2 + 1, none⟩ = some (.slice k.p.A k.p.n k.p.c) := by
  obtain ⟨b, o, e, hlt, hc⟩ := h.at_ (by omega)
  have hl : j < K.length := by rw [h.len]; exact hj
  have hf : K[j]? = some K[j] := List.getElem?_eq_getElem hl
  exact ⟨b, o, K[j], e, hlt, hf, h.ok _ (List.getElem_mem hl), hc j _ hf 0 (by omega), hc j _ hf 1 (by omega)⟩
theorem KRow.nil_ : KRow w B A 0 [] := ⟨rfl, by simp, fun h => absurd h (by omega)⟩
/-- A row of one's own reads as its keys. -/
theorem KRow.of_own {base c : Nat} {e : TypeId} (h : w.ownsRow base e 2 (.slice A n c) n (kflat K)) (hok : ∀ k ∈ K, k.Ok w w.heap.size) : KRow w w.heap.size A n K := by
  have hl : K.length = n := by have := h.1; rw [kflat_len] at this; omega
  refine ⟨hl, hok, fun hn => ?_⟩
  have hh := h
  rcases h.2 with ⟨h0, h1⟩ | ⟨g, cap, cur, hv, _, hg, _, _, _, _⟩
  · omega
  · injection hv with h1 h2 h3
    subst h1; subst h3
    refine ⟨g, 0, rfl, (Array.getElem?_eq_some_iff.1 hg).1, fun j s hj i hi => ?_⟩
    have hx := kflat_at hj i hi
    have hs : i < s.cells.size := hi
    rw [Array.getElem?_eq_getElem hs] at hx ⊢
    have := hh.cells (g := g) rfl (j * 2 + i) _ hx
    have hadd : (⟨g, 0, none⟩ : Addr).add (j * 2 + i) = ⟨g, 0 + (j * 2 + i), none⟩ := by unfold Addr.add; split <;> simp_all
    rw [hadd] at this
    rw [Nat.add_assoc]
    exact this
/-- A block made of keys. -/
theorem KRow.of_blk {g : Nat} {cs : Array Value} {t : TypeId} {fr : Nat × Nat} (hg : w.heap[g]? = some (.cells cs t fr)) (hB : g < B) (hcs : cs.toList = kflat K) (hok : ∀ k ∈ K, k.Ok w B) : KRow w B (some ⟨g, 0, none⟩) K.length K :=
  ⟨rfl, hok, fun _ => ⟨g, 0, rfl, hB, fun j k hj i hi => by
    rw [Nat.zero_add, cell_of_row w g (j * 2 + i) cs t fr hg, ← kflat_at hj i hi, ← hcs]
    simp⟩⟩
end
end Go.Proofs.YtmkdbpdfonpfdaaDoor.Rg

/- Layer 9 (ring): the reference's Right, as a contract. -/
namespace Go.Proofs.YtmkdbpdfonpfdaaDoor.Rg
open Go.RowKit Slc

/-- The logical keys of a row. -/
def ls (K : List Kp) : List Kl := K.map Kp.l
theorem ls_at {K : List Kp} {j : Nat} {k : Kp} (h : K[j]? = some k) : (ls K)[j]? = some (k.e, k.p.xs) := by
  unfold ls
  rw [List.getElem?_map, h]
  rfl
theorem ls_len (K : List Kp) : (ls K).length = K.length := by simp [ls]

theorem below_drewN {B q : Nat} {w w' : World} (h : Below B w w') : Below B w (w'.drewN q) := ⟨h.os, h.tape, h.output, h.size, h.block⟩

set_option maxHeartbeats 1600000 in
set_option maxRecDepth 100000 in
theorem refright_any (keep : Int) (A : Option Addr) (n c B : Nat) (K : List Kp) (w : World) (h : KRow w B A n K) (hB : B ≤ w.heap.size) (hn : n ≤ 4398046511104) :
    Calls Tryd.prog 23 #[.agg #[.int .i64 keep, .slice A n c]] w fun x w' => x = .returned (.bool (rt keep (ls K))) ∧ Below w.heap.size w w' := by
  have H := Lib.hid h
  have HBB := Lib.hid hB
  have hlen := h.len
  have HB0 : Hid (Below w.heap.size w (w.alloc (.cells #[.int .i64 keep, .slice A n c] 24))) := (Below.refl _ _).alloc (Nat.le_refl _) _
  have c0 : (w.alloc (.cells #[.int .i64 keep, .slice A n c] 24)).cell? ⟨w.heap.size, 0, none⟩ = some (.int .i64 keep) := cell_of_blk (heap_alloc_new w _) rfl
  have c1 : (w.alloc (.cells #[.int .i64 keep, .slice A n c] 24)).cell? ⟨w.heap.size, 1, none⟩ = some (.slice A n c) := cell_of_blk (heap_alloc_new w _) rfl
  clear h hB
  by_cases g0 : keep < 1
  · have hd : decide (keep < 1) = true := decide_eq_true g0
    have hf : rt keep (ls K) = false := rt_no fun hh => by have := hh.1; omega
    rw [hf]
    go_enter Tryd.func23, Tryd.ntmps23
    go_wp2
    go_ret
    exact ⟨rfl, HB0.out⟩
  by_cases g1 : 16 < keep
  · have hd0 : decide (keep < 1) = false := decide_eq_false g0
    have hd : decide (16 < keep) = true := decide_eq_true g1
    have hf : rt keep (ls K) = false := rt_no fun hh => by have := hh.2.1; omega
    rw [hf]
    go_enter Tryd.func23, Tryd.ntmps23
    go_wp2
    go_ret
    exact ⟨rfl, HB0.out⟩
  by_cases g2 : (n : Int) < 1
  · have hd0 : decide (keep < 1) = false := decide_eq_false g0
    have hd1 : decide (16 < keep) = false := decide_eq_false g1
    have hd : decide ((n : Int) < 1) = true := decide_eq_true g2
    have hf : rt keep (ls K) = false := rt_no fun hh => by have := hh.2.2.1; rw [ls_len] at this; omega
    rw [hf]
    go_enter Tryd.func23, Tryd.ntmps23
    go_wp2
    go_ret
    exact ⟨rfl, HB0.out⟩
  by_cases g3 : keep < (n : Int)
  · have hd0 : decide (keep < 1) = false := decide_eq_false g0
    have hd1 : decide (16 < keep) = false := decide_eq_false g1
    have hd2 : decide ((n : Int) < 1) = false := decide_eq_false g2
    have hd : decide (keep < (n : Int)) = true := decide_eq_true g3
    have hf : rt keep (ls K) = false := rt_no fun hh => by have := hh.2.2.2.1; rw [ls_len] at this; omega
    rw [hf]
    go_enter Tryd.func23, Tryd.ntmps23
    go_wp2
    go_ret
    exact ⟨rfl, HB0.out⟩
  have hd0 : decide (keep < 1) = false := decide_eq_false g0
  have hd1 : decide (16 < keep) = false := decide_eq_false g1
  have hd2 : decide ((n : Int) < 1) = false := decide_eq_false g2
  have hd3 : decide (keep < (n : Int)) = false := decide_eq_false g3
  go_enter Tryd.func23, Tryd.ntmps23
  go_wp2_with fail
  have hb1 : Below (w.heap.size + 1) (w.alloc (.cells #[.int .i64 keep, .slice A n c] 24)) (w.alloc (.cells #[.int .i64 keep, .slice A n c] 24)) := Below.refl _ _
  have HB1 := Lib.hid hb1
  have HC := Lib.hid (And.intro c0 c1)
  have HS1 : Hid ((w.alloc (.cells #[.int .i64 keep, .slice A n c] 24)).heap.size = w.heap.size + 1) := by unfold Hid; simp
  have HK1 := Lib.hid (H.out.below (HB0.out.mono HBB.out))
  generalize w.alloc (.cells #[.int .i64 keep, .slice A n c] 24) = w1 at *
  clear c0 c1 hb1
  go_loopw [3, 4] (fun i _ wr => ∃ t : Nat, t ≤ n ∧ i = .int .i64 (t : Int) ∧ Hid (∀ j k, j < t → (ls K)[j]? = some k → gd (ls K) j k) ∧ Hid (Below (w.heap.size + 1) w1 wr)) (fun i _ _ => n - (intOf i).toNat)
  case atStart => exact ⟨0, Nat.zero_le _, rfl, Lib.hid (fun j k h => absurd h (by omega)), HB1⟩
  case round =>
    obtain ⟨t, ht, rfl, HG, HB⟩ := hrel
    have c1 := (HB.out.cell (p := ⟨w.heap.size, 1, none⟩) (by show w.heap.size < _; omega)).trans HC.out.2
    have HBW : Hid (Below w.heap.size w wr) := HB0.out.trans (HB.out.mono (by omega))
    by_cases hlt : t < n
    · obtain ⟨b, o, k, rfl, hbb, hk, hok, k0, k1⟩ := (HK1.out.below (HB.out.mono (by have := HBB.out; omega))).at hlt
      have hlt' : (t : Int) < (n : Int) := by omega
      have HOK := Lib.hid hok
      have HKA := Lib.hid (ls_at hk)
      clear hk hok
      obtain ⟨e, pA, pn, pc, xs⟩ := k
      simp only at k0 k1
      have HBA : Hid (Below w.heap.size w (wr.alloc (.cells #[.int .i64 e, .slice pA pn pc] 58))) := HBW.out.alloc HBW.out.size _
      by_cases q0 : pn = 32
      · subst q0
        by_cases q1 : e < 1
        · have hd5 : decide (e < 1) = true := decide_eq_true q1
          have hf : Hid (rt keep (ls K) = false) := rt_no fun hh => by
            have h1 := (hh.2.2.2.2 t _ HKA.out).2.1
            simp only at h1
            omega
          go_wp2
          go_ret
          exact ⟨congrArg (fun b => Ending.returned (.bool b)) hf.out.symm, HBA.out⟩
        by_cases q2 : 1048576 < e
        · have hd5 : decide (e < 1) = false := decide_eq_false q1
          have hd6 : decide (1048576 < e) = true := decide_eq_true q2
          have hf : Hid (rt keep (ls K) = false) := rt_no fun hh => by
            have h1 := (hh.2.2.2.2 t _ HKA.out).2.2.1
            simp only at h1
            omega
          go_wp2
          go_ret
          exact ⟨congrArg (fun b => Ending.returned (.bool b)) hf.out.symm, HBA.out⟩
        have hd5 : decide (e < 1) = false := decide_eq_false q1
        have hd6 : decide (1048576 < e) = false := decide_eq_false q2
        by_cases q3 : t = 0
        · subst q3
          rw [Nat.zero_mul, Nat.add_zero] at k0 k1
          have HG2 : Hid (∀ j k, j < 0 + 1 → (ls K)[j]? = some k → gd (ls K) j k) := fun j k hj hk => by
            obtain rfl : j = 0 := by omega
            rw [HKA.out] at hk
            injection hk with hk
            subst hk
            have h2 := HOK.out.len
            simp only at h2
            exact ⟨by simp only; omega, by simp only; omega, by simp only; omega, fun h => absurd h (by omega)⟩
          have HXB := Lib.hid HBA.out
          have HXN : Hid (Below (w.heap.size + 1) w1 (wr.alloc (.cells #[.int .i64 e, .slice pA 32 pc] 58))) := HB.out.alloc (by have := HB.out.size; have := HS1.out; omega) _
          have x0 : (wr.alloc (.cells #[.int .i64 e, .slice pA 32 pc] 58)).cell? ⟨wr.heap.size, 0, none⟩ = some (.int .i64 e) := cell_of_blk (heap_alloc_new wr _) rfl
          have x1 : (wr.alloc (.cells #[.int .i64 e, .slice pA 32 pc] 58)).cell? ⟨w.heap.size, 1, none⟩ = some (.slice (some ⟨b, o, none⟩) n c) := (HXN.out.cell (p := ⟨w.heap.size, 1, none⟩) (by show w.heap.size < _; omega)).trans HC.out.2
          have hd7 : decide ((0 : Int) < 0) = false := by decide
          go_wp2_with fail
          generalize wr.alloc (.cells #[.int .i64 e, .slice pA 32 pc] 58) = wx at *
          go_quiet (fail)
          have HXB1 := Lib.hid (below_drewN (q := nq) HXB.out)
          have HXN1 := Lib.hid (below_drewN (q := nq) HXN.out)
          clear HXB HXN HBA x0 x1
          generalize wx.drewN nq = wy at *
          go_wp2
          go_roundw
          case rel => exact ⟨0 + 1, by omega, by go_num, HG2, HXN1⟩
          case measure => simp [intOf]; omega
        · obtain ⟨q, hq⟩ : ∃ q, K[t - 1]? = some q := ⟨_, List.getElem?_eq_getElem (by omega)⟩
          obtain ⟨b', o', e1, -, hc⟩ := (HK1.out.below (HB.out.mono (by have := HBB.out; omega))).at_ (by omega)
          injection e1 with e1
          injection e1 with e1 e2
          subst e1 e2
          have k2 : (wr.alloc (.cells #[.int .i64 e, .slice pA 32 pc] 58)).cell? ⟨b, o + (t - 1) * 2, none⟩ = some (.int .i64 q.e) := ((Below.refl wr.heap.size wr).alloc (Nat.le_refl _) _).cell (p := ⟨b, o + (t - 1) * 2, none⟩) (by have h1 := HBW.out.size; have h2 := HBB.out; show b < _; omega) |>.trans (hc (t - 1) q hq 0 (by omega))
          have m1 : IntKind.i64.wrap ((t : Int) - 1) = (t : Int) - 1 := IntWalk.i64_in _ ⟨by omega, by omega⟩
          have p1 : (0 : Int) ≤ (t : Int) - 1 := by omega
          have p2 : (t : Int) - 1 < (n : Int) := by omega
          have n1 : ((t : Int) - 1).toNat = t - 1 := by omega
          have hd7 : decide ((0 : Int) < (t : Int)) = true := by simp; omega
          have hd7' : decide (0 < t) = true := by simp; omega
          have HXB := Lib.hid HBA.out
          have HXN : Hid (Below (w.heap.size + 1) w1 (wr.alloc (.cells #[.int .i64 e, .slice pA 32 pc] 58))) := HB.out.alloc (by have := HB.out.size; have := HS1.out; omega) _
          have x0 : (wr.alloc (.cells #[.int .i64 e, .slice pA 32 pc] 58)).cell? ⟨wr.heap.size, 0, none⟩ = some (.int .i64 e) := cell_of_blk (heap_alloc_new wr _) rfl
          have x1 : (wr.alloc (.cells #[.int .i64 e, .slice pA 32 pc] 58)).cell? ⟨w.heap.size, 1, none⟩ = some (.slice (some ⟨b, o, none⟩) n c) := (HXN.out.cell (p := ⟨w.heap.size, 1, none⟩) (by show w.heap.size < _; omega)).trans HC.out.2
          have HQ := HG.out (t - 1) (q.e, q.p.xs) (by omega) (ls_at hq)
          have HW := IntWalk.i64_in (q.e + 1) ⟨by have := HQ.2.1; simp only at this; omega, by have := HQ.2.2.1; simp only at this; omega⟩
          by_cases q4 : e = q.e + 1
          · have hd8 : (e != q.e + 1) = false := by rw [q4]; simp
            have Q4 := Lib.hid q4
            clear q4
            go_wp2_with fail
            generalize wr.alloc (.cells #[.int .i64 e, .slice pA 32 pc] 58) = wx at *
            have HG2 : Hid (∀ j k, j < t + 1 → (ls K)[j]? = some k → gd (ls K) j k) := fun j k hj hk => by
              by_cases hjt : j < t
              · exact HG.out j k hjt hk
              · obtain rfl : j = t := by omega
                rw [HKA.out] at hk
                injection hk with hk
                subst hk
                have h2 := HOK.out.len
                simp only at h2
                refine ⟨by simp only; omega, by simp only; omega, by simp only; omega, fun _ r hr => ?_⟩
                rw [ls_at hq] at hr
                injection hr with hr
                subst hr
                exact Q4.out
            go_quiet (fail)
            have HXB1 := Lib.hid (below_drewN (q := nq) HXB.out)
            have HXN1 := Lib.hid (below_drewN (q := nq) HXN.out)
            clear HXB HXN HBA x0 x1 k2
            generalize wx.drewN nq = wy at *
            go_wp2
            go_roundw
            case rel => exact ⟨t + 1, by omega, by go_num, HG2, HXN1⟩
            case measure => simp [intOf]; omega
          · have hd8 : (e != q.e + 1) = true := bne_iff_ne.2 q4
            have Q4 := Lib.hid q4
            clear q4
            go_wp2_with fail
            generalize wr.alloc (.cells #[.int .i64 e, .slice pA 32 pc] 58) = wx at *
            have hf : Hid (rt keep (ls K) = false) := rt_no fun hh => Q4.out ((hh.2.2.2.2 t _ HKA.out).2.2.2 (by omega) _ (ls_at hq))
            go_quiet (fail)
            have HXB1 := Lib.hid (below_drewN (q := nq) HXB.out)
            have HXN1 := Lib.hid (below_drewN (q := nq) HXN.out)
            clear HXB HXN HBA x0 x1 k2
            generalize wx.drewN nq = wy at *
            go_wp2
            go_ret
            exact ⟨congrArg (fun b => Ending.returned (.bool b)) hf.out.symm, HXB1.out⟩
      · have hd4 : decide ((pn : Int) = 32) = false := by simp; omega
        have hf : Hid (rt keep (ls K) = false) := rt_no fun hh => by
          have h1 := (hh.2.2.2.2 t _ HKA.out).1
          have h2 := HOK.out.len
          simp only at h1 h2
          omega
        go_wp2
        go_ret
        exact ⟨congrArg (fun b => Ending.returned (.bool b)) hf.out.symm, HBA.out⟩
    · obtain rfl : t = n := by omega
      have hf : Hid (rt keep (ls K) = true) := rt_yes ⟨by omega, by omega, by rw [ls_len]; omega, by rw [ls_len]; omega, fun j k hj => HG.out j k (by have := (List.getElem?_eq_some_iff.1 hj).1; rw [ls_len] at this; omega) hj⟩
      go_wp2
      go_ret
      exact ⟨congrArg (fun b => Ending.returned (.bool b)) hf.out.symm, HBW.out⟩
end Go.Proofs.YtmkdbpdfonpfdaaDoor.Rg

/- Layer 9 (ring): the reference's Find, as a contract. -/
namespace Go.Proofs.YtmkdbpdfonpfdaaDoor.Rg
open Go.RowKit Slc

/-- What a call that looks for a key answers. -/
def FindTo (B : Nat) (w0 : World) (K : List Kp) (e : Int) (x : Ending) (w' : World) : Prop :=
  ∃ A n c, x = .returned (.tuple #[.slice A n c, .bool (fnd (ls K) e).isSome]) ∧ Row .u8 w' w'.heap.size A n ((fnd (ls K) e).getD []) ∧ (A = none → c = 0) ∧ n ≤ c ∧ Below B w0 w'

set_option maxHeartbeats 1600000 in
set_option maxRecDepth 100000 in
theorem reffind_any (keep e : Int) (A : Option Addr) (n c B : Nat) (K : List Kp) (w : World) (h : KRow w B A n K) (hB : B ≤ w.heap.size) (hn : n ≤ 4398046511104) :
    Calls Tryd.prog 45 #[.agg #[.int .i64 keep, .slice A n c], .int .i64 e] w (FindTo w.heap.size w K e) := by
  have H := Lib.hid h
  have HBB := Lib.hid hB
  have hlen := h.len
  have HB0 : Hid (Below w.heap.size w (w.alloc (.cells #[.int .i64 keep, .slice A n c] 24))) := (Below.refl _ _).alloc (Nat.le_refl _) _
  have c1 : (w.alloc (.cells #[.int .i64 keep, .slice A n c] 24)).cell? ⟨w.heap.size, 1, none⟩ = some (.slice A n c) := cell_of_blk (heap_alloc_new w _) rfl
  have HC := Lib.hid c1
  have HS1 : Hid ((w.alloc (.cells #[.int .i64 keep, .slice A n c] 24)).heap.size = w.heap.size + 1) := by unfold Hid; simp
  have HK1 := Lib.hid (H.out.below (HB0.out.mono HBB.out))
  clear h hB
  go_enter Tryd.func45, Tryd.ntmps45
  go_wp2_with fail
  generalize w.alloc (.cells #[.int .i64 keep, .slice A n c] 24) = w1 at *
  go_loopw [6] (fun i wr => ∃ t : Nat, t ≤ n ∧ i = .int .i64 (t : Int) ∧ wr = w1 ∧ Hid (∀ (j : Nat) (q : Kl), j < t → (ls K)[j]? = some q → q.1 ≠ e)) (fun i _ => n - (intOf i).toNat)
  case atStart => exact ⟨0, Nat.zero_le _, rfl, rfl, Lib.hid (fun j q h => absurd h (by omega))⟩
  case round =>
    obtain ⟨t, ht, rfl, rfl, HG⟩ := hrel
    by_cases hlt : t < n
    · obtain ⟨b, o, k, rfl, hbb, hk, hok, k0, k1⟩ := HK1.out.at hlt
      have hlt' : (t : Int) < (n : Int) := by omega
      have HOK := Lib.hid hok
      have HKA := Lib.hid (ls_at hk)
      clear hk hok
      obtain ⟨ke, pA, pn, pc, xs⟩ := k
      simp only at k0 k1
      by_cases q0 : ke = e
      · subst q0
        have hf : Hid (fnd (ls K) ke = some xs) := fnd_hit HKA.out rfl HG.out
        go_wp2
        go_ret2
        refine ⟨pA, pn, pc, by rw [hf.out]; rfl, ?_, HOK.out.right.2, HOK.out.le, HB0.out⟩
        rw [hf.out]
        exact HOK.out.right.1.more (Nat.le_trans HBB.out HB0.out.size)
      · have hd : decide (ke = e) = false := decide_eq_false q0
        have hd' : (ke == e) = false := beq_eq_false_iff_ne.2 q0
        have HG2 : Hid (∀ (j : Nat) (q : Kl), j < t + 1 → (ls K)[j]? = some q → q.1 ≠ e) := fun j q hj hq => by
          by_cases hjt : j < t
          · exact HG.out j q hjt hq
          · obtain rfl : j = t := by omega
            rw [HKA.out] at hq
            injection hq with hq
            subst hq
            exact q0
        have Q0 := Lib.hid q0
        clear q0
        go_wp2
        go_roundw
        case rel => exact ⟨t + 1, by omega, by go_num, trivial, HG2⟩
        case measure => simp [intOf]; omega
    · obtain rfl : t = n := by omega
      have hf : Hid (fnd (ls K) e = none) := fnd_miss (fun j q hj => HG.out j q (by have := (List.getElem?_eq_some_iff.1 hj).1; rw [ls_len] at this; omega) hj)
      go_wp2
      go_ret2
      exact ⟨none, 0, 0, by rw [hf.out]; rfl, by rw [hf.out]; exact Row.none_, fun _ => rfl, Nat.le_refl _, HB0.out⟩
end Go.Proofs.YtmkdbpdfonpfdaaDoor.Rg

/- Appends of keys of epochs onto a row of one's own, over any program: in a walk's list, and as a step of a region that draws. -/
namespace Go.Proofs.YtmkdbpdfonpfdaaDoor.Rg
open Go.RowKit Slc

theorem own_below_n {w w' : World} {base n size : Nat} {e : TypeId} {v : Value} {xs : List Value} (h : w.ownsRow base e size v n xs) (hb : Below w.heap.size w w') : w'.ownsRow base e size v n xs := by
  refine ⟨h.1, ?_⟩
  rcases h.2 with hn | ⟨g, cap, cur, rfl, h1, hg, rest⟩
  · exact .inl hn
  · exact .inr ⟨g, cap, cur, rfl, h1, (hb.block g (Array.getElem?_eq_some_iff.1 hg).1).trans hg, rest⟩
theorem own_slice_n {w : World} {base n size : Nat} {e : TypeId} {v : Value} {xs : List Value} (h : w.ownsRow base e size v n xs) : ∃ A c, v = .slice A n c ∧ n ≤ c ∧ (A = none → c = 0) := by
  rcases h.2 with ⟨rfl, rfl⟩ | ⟨g, cap, cur, rfl, _, _, hc, _⟩
  · exact ⟨none, 0, rfl, Nat.le_refl _, fun _ => rfl⟩
  · exact ⟨_, cap, rfl, hc, fun h => by cases h⟩
theorem own_only_n {M : Nat → Prop} {w w' : World} {base n size : Nat} {e : TypeId} {v : Value} {xs : List Value} (h : Only M w w') (ho : w.ownsRow base e size v n xs) (hn : ∀ k, v.ownBlock = some k → ¬ M k) : w'.ownsRow base e size v n xs := by
  refine ⟨ho.1, ?_⟩
  rcases ho.2 with h0 | ⟨g, cap, cur, rfl, h1, hg, rest⟩
  · exact .inl h0
  · exact .inr ⟨g, cap, cur, rfl, h1, h.at hg (hn g rfl), rest⟩
theorem Kp.Ok.only {M : Nat → Prop} {w w' : World} {B : Nat} {k : Kp} (h : k.Ok w B) (ho : Only M w w') (hB : B ≤ w.heap.size) (hn : ∀ b o, k.p.A = some ⟨b, o, none⟩ → b < B → ¬ M b) : k.Ok w' B :=
  ⟨⟨ho.row h.right.1 hB hn, h.right.2⟩, h.le, h.byt, h.lo, h.hi⟩
theorem krow_news {w : World} {B m : Nat} {ad : Addr} {K : List Kp} (hr : KRow w B (some ad) m K) : ∀ j u, (kflat K)[j]? = some u → w.cell? (ad.add j) = some u := by
  intro j u hj
  have hjl : j < K.length * 2 := by
    have := (List.getElem?_eq_some_iff.1 hj).1
    rwa [kflat_len] at this
  have hm : K.length = m := hr.len
  obtain ⟨b, o, he, _, hc⟩ := hr.at_ (by omega)
  injection he with he
  subst he
  have hadd : (⟨b, o, none⟩ : Addr).add j = ⟨b, o + j, none⟩ := by unfold Addr.add; split <;> simp_all
  have hk : K[j / 2]? = some (K[j / 2]'(by omega)) := List.getElem?_eq_getElem (by omega)
  have h1 := hc (j / 2) _ hk (j % 2) (by omega)
  have h2 := kflat_at hk (j % 2) (by omega)
  have e : j / 2 * 2 + j % 2 = j := by omega
  rw [Nat.add_assoc, e] at h1
  rw [e] at h2
  rw [hadd, h1, ← h2, hj]
theorem kflat_one (K : List Kp) : ∀ u ∈ kflat K, u.oneCell' = true := by
  intro u hu
  obtain ⟨k, _, hk⟩ := List.mem_flatMap.1 hu
  simp only [List.mem_cons, List.not_mem_nil, or_false] at hk
  rcases hk with rfl | rfl <;> rfl
theorem kflat_cat (K K' : List Kp) : kflat (K ++ K') = kflat K ++ kflat K' := by simp [kflat]

/-- 'append(out, ks...)': out is nil or one's own; ks reads as a row that is not nil. -/
theorem cat_keys {P : Program} {ops : Array Oper} {rest : List Oper} {o : Oper} {a : Act} {Q : Exit → Act → World → Prop} {w : World} (hgd : o.guard = none) (s x : Operand) (t : TypeId)
    (ho : o.op = .call { callee := .builtin .append, args := #[s, x], argTypes := #[t, t] })
    (base : Nat) (e : TypeId) (i : TypeInfo) (z : Value) (bytes : Nat) (ht : P.underlying t = some (.slice e)) (hi : P.info? e = some i) (hz : i.zero = some z) (hz2 : z.cells.size = 2) (hsize : i.size = 2) (hby : i.bytes = bytes)
    (v : Value) (n : Nat) (K : List Kp) (hs : a.eval s = v) (hown : w.ownsRow base e 2 v n (kflat K)) (B : Nat) (ad : Addr) (m c : Nat) (K' : List Kp) (hx : a.eval x = .slice (some ad) m c) (hr : KRow w B (some ad) m K')
    (hn : n + m ≤ 1099511627776) (hb8 : bytes ≤ 100) (hbase : base ≤ w.heap.size)
    (h : ∀ v' w', w'.ownsRow base e 2 v' (n + m) (kflat (K ++ K')) → w.grownBy w' v.ownBlock → Below base w w' → wpList P ops Q rest (a.put o.dst v') w') :
    wpList P ops Q (o :: rest) a w := by
  refine wpList_append_own _ hgd s x t ho base e i z 2 bytes ht hi hz hsize hby hz2 (by omega) v n (kflat K) hs hown ad m c (kflat K') hx (by rw [kflat_len, hr.len]) (krow_news hr) (kflat_one K') ?_ ?_ hbase ?_
  · unfold maxLen; omega
  · have := Nat.mul_le_mul hn hb8
    omega
  · intro v' w' hown' hgrow _
    exact h v' w' (by rw [kflat_cat]; exact hown') hgrow ((Below.refl _ _).grown hgrow hbase (fun j hj => (hown.lt j hj).1))

/-- The same, as a step of a region that draws. -/
theorem step_keys {P : Program} {ops : Array Oper} {o : Oper} {a : Act} {K0 : Act → World → Prop} {Q : Exit → Act → World → Prop} {E : Prop} {w : World} (hgd : o.guard = none) (s x : Operand) (t : TypeId)
    (ho : o.op = .call { callee := .builtin .append, args := #[s, x], argTypes := #[t, t] })
    (base : Nat) (e : TypeId) (i : TypeInfo) (z : Value) (bytes : Nat) (ht : P.underlying t = some (.slice e)) (hi : P.info? e = some i) (hz : i.zero = some z) (hz2 : z.cells.size = 2) (hsize : i.size = 2) (hby : i.bytes = bytes)
    (v : Value) (n : Nat) (K : List Kp) (hs : a.eval s = v) (hown : w.ownsRow base e 2 v n (kflat K)) (B : Nat) (ad : Addr) (m c : Nat) (K' : List Kp) (hx : a.eval x = .slice (some ad) m c) (hr : KRow w B (some ad) m K')
    (hn : n + m ≤ 1099511627776) (hb8 : bytes ≤ 100) (hbase : base ≤ w.heap.size)
    (h : ∀ v' w', w'.ownsRow base e 2 v' (n + m) (kflat (K ++ K')) → w.grownBy w' v.ownBlock → Below base w w' → K0 (a.put o.dst v') w') :
    if Region.wanted o (yielded ops a.tmps) = true then Oper.wp P o a w K0 Q else E := by
  have hw : Region.wanted o (yielded ops a.tmps) = true := by simp [Region.wanted, hgd]
  rw [if_pos hw]
  have h63 : n + m ≤ maxLen := by unfold maxLen; omega
  have hbb : (n + m) * bytes ≤ 140737488355328 := by have := Nat.mul_le_mul hn hb8; omega
  obtain ⟨v', w', hrun, h2, h3, _⟩ := run_append_own (P := P) w base t o.type e i z 2 bytes ht hi hz hsize hby hz2 (by omega) v n _ hown ad m c _ (by rw [kflat_len, hr.len]) (krow_news hr) (kflat_one K') h63 hbb hbase
  unfold Oper.wp execOp
  simp only [ho, resolve, invoke, builtin, Sem.run_bind, Sem.run_pure, Result.andThen_ok, List.map_toArray, List.map_cons, List.map_nil, hs, hx, hrun]
  exact h v' w' (by rw [kflat_cat]; exact h2) h3 ((Below.refl _ _).grown h3 hbase (fun j hj => (hown.lt j hj).1))

/-- Block R holds nothing of these keys. -/
structure NotIn (R : Nat) (n : Nat) (A : Option Addr) (K : List Kp) : Prop where
  row : 0 < n → ∀ o, A ≠ some ⟨R, o, none⟩
  keys : ∀ k ∈ K, 0 < k.p.n → ∀ o, k.p.A ≠ some ⟨R, o, none⟩
/-- All of these keys lies in new blocks. -/
structure Fresh (B : Nat) (A : Option Addr) (K : List Kp) : Prop where
  row : ∀ b o, A = some ⟨b, o, none⟩ → B ≤ b
  keys : ∀ k ∈ K, ∀ b o, k.p.A = some ⟨b, o, none⟩ → B ≤ b
section
variable {w w' : World} {B R n : Nat} {A : Option Addr} {K : List Kp}
theorem KRow.notIn (h : KRow w B A n K) (hR : B ≤ R) : NotIn R n A K := by
  refine ⟨fun hn o e => ?_, fun k hk hn o e => ?_⟩
  · obtain ⟨b, o', e', hb, _⟩ := h.at_ hn
    rw [e] at e'
    injection e' with e'
    injection e' with e1 e2
    omega
  · obtain ⟨b, o', e', hb, _⟩ := (h.ok k hk).right.1.2 hn
    rw [e] at e'
    injection e' with e'
    injection e' with e1 e2
    omega
theorem Fresh.notIn (h : Fresh B A K) (hR : R < B) : NotIn R n A K :=
  ⟨fun _ o e => by have := h.row R o e; omega, fun k hk _ o e => by have := h.keys k hk R o e; omega⟩
theorem KRow.set (h : KRow w B A n K) (hR : NotIn R n A K) (ho : Only (fun i => i = R) w w') (hB : B ≤ w.heap.size) : KRow w' B A n K := by
  refine ⟨h.len, fun k hk => ⟨⟨⟨(h.ok k hk).right.1.1, fun hn => ?_⟩, (h.ok k hk).right.2⟩, (h.ok k hk).le, (h.ok k hk).byt, (h.ok k hk).lo, (h.ok k hk).hi⟩, fun hn => ?_⟩
  · obtain ⟨b, o, e, hb, hc⟩ := (h.ok k hk).right.1.2 hn
    have hne : b ≠ R := fun e' => hR.keys k hk hn o (by rw [e, e'])
    exact ⟨b, o, e, hb, fun j hj => (World.cell?_of_block (w := w) (ho.block b (by omega) hne)).trans (hc j hj)⟩
  · obtain ⟨b, o, e, hb, hc⟩ := h.at_ hn
    have hne : b ≠ R := fun e' => hR.row hn o (by rw [e, e'])
    exact ⟨b, o, e, hb, fun j k hk i hi => (World.cell?_of_block (w := w) (ho.block b (by omega) hne)).trans (hc j k hk i hi)⟩
end
end Go.Proofs.YtmkdbpdfonpfdaaDoor.Rg

/- Layer 7 (sha): the reference's turned, as a contract. -/
namespace Go.Proofs.YtmkdbpdfonpfdaaDoor.Sha
open Go.RowKit

set_option maxHeartbeats 800000 in
set_option maxRecDepth 100000 in
theorem turned_any (a : Wd) (n : Nat) (h1 : 0 < n) (h2 : n < 32) (w : World) : Calls Tryd.prog 98 #[.int .u32 (wi a), .int .i64 (n : Int)] w fun e w' => e = .returned (.int .u32 (wi (rot a n))) ∧ ∃ q, w' = w.drewN q := by
  have hw : IntKind.i64.wrap (32 - (n : Int)) = 32 - (n : Int) := IntWalk.i64_in _ ⟨by omega, by omega⟩
  have i1 : (0 : Int) ≤ (n : Int) := by omega
  have i2 : (0 : Int) ≤ 32 - (n : Int) := by omega
  go_enter Tryd.func98, Tryd.ntmps98
  go_wp2_with fail
  go_quiet (fail)
  go_wp2
  go_ret
  refine ⟨?_, _, rfl⟩
  show Ending.returned (.int .u32 (bits .or .u32 (wi a / 2 ^ n) (wi a * 2 ^ (32 - n) % 4294967296))) = _
  rw [wi_shr, wi_shl, wi_or]
  rfl
/-- The same, by the number as it stands. -/
theorem turned_z (a : Wd) (z : Int) (h1 : 0 < z) (h2 : z < 32) (w : World) : Calls Tryd.prog 98 #[.int .u32 (wi a), .int .i64 z] w fun e w' => e = .returned (.int .u32 (wi (rot a z.toNat))) ∧ ∃ q, w' = w.drewN q := by
  obtain ⟨n, rfl⟩ := Int.eq_ofNat_of_zero_le (show 0 ≤ z by omega)
  exact turned_any a n (by omega) (by omega) w
end Go.Proofs.YtmkdbpdfonpfdaaDoor.Sha
