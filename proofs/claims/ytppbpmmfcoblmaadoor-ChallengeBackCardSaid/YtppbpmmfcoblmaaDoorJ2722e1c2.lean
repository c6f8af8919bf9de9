/- Lemmas that the proof stands on, in build order: ShaN. -/
import Derived.Laws.CopyOwn
import Derived.Test.YtppbpmmfcoblmaaDoorJ1ef7bc1
import Derived.Test.YtppbpmmfcoblmaaDoorJ266834e2
/- Layer 7 (sha): a run in memory (the words, the bytes kept, the count), and what bytes that go into it turn. -/
namespace Go.Proofs.YtppbpmmfcoblmaaDoor.Sha
open Go.RowKit

/-! ### mathematics -/
theorem getD_app_left {b c : List Int} {i : Nat} (h : i < b.length) : (b ++ c).getD i 0 = b.getD i 0 := by
  simp [List.getD, List.getElem?_append_left h]
theorem four_app {b c : List Int} {a : Nat} : ∀ j, a + j ≤ b.length → four (b ++ c) a j = four b a j
  | 0, _ => rfl
  | j + 1, h => by rw [four, four, four_app j (by omega), getD_app_left (by omega)]
theorem words_app {b c : List Int} {a : Nat} : ∀ n, a + 4 * n ≤ b.length → words (b ++ c) a n = words b a n
  | 0, _ => rfl
  | n + 1, h => by rw [words, words, words_app n (by omega), four_app 4 (by omega)]
theorem blocks_app {b c : List Int} (k h : List Wd) : ∀ n, 64 * n ≤ b.length → blocks k h (b ++ c) n = blocks k h b n
  | 0, _ => rfl
  | n + 1, hl => by
    rw [blocks, blocks, blocks_app k h n (by omega)]
    unfold block
    rw [words_app 16 (by omega)]
theorem four_drop {b : List Int} {a : Nat} (o : Nat) : ∀ j, four (b.drop a) o j = four b (a + o) j
  | 0 => rfl
  | j + 1 => by
    rw [four, four, four_drop o j]
    have e : (b.drop a).getD (o + j) 0 = b.getD (a + o + j) 0 := by
      simp [List.getD, List.getElem?_drop, Nat.add_assoc]
    rw [e]
theorem words_drop {b : List Int} {a : Nat} : ∀ n, words (b.drop a) 0 n = words b a n
  | 0 => rfl
  | n + 1 => by rw [words, words, words_drop n, four_drop, Nat.zero_add]
theorem block_at (k h : List Wd) (b : List Int) (m : Nat) (L : List Int) (hL : L = b.drop (64 * m)) : adds h (rounds k (sched 48 (words L 0 16)) h 64) 8 = block k h b (64 * m) := by
  subst hL
  unfold block
  rw [words_drop]
theorem blocks_len (k h b) (hh : h.length = 8) : ∀ n, (blocks k h b n).length = 8
  | 0 => hh
  | n + 1 => by rw [blocks]; unfold block; exact adds_len _ _ _

/-- What a run holds behind the bytes b. -/
structure Rn (b : List Int) (H : List Wd) (L : List Int) : Prop where
  l64 : L.length = 64
  byt : ∀ x ∈ L, 0 ≤ x ∧ x ≤ 255
  hash : H = blocks ks hs b (b.length / 64)
  last : L.take (b.length % 64) = b.drop (64 * (b.length / 64))
theorem Rn.h8 {b : List Int} {H : List Wd} {L : List Int} (h : Rn b H L) : H.length = 8 := by rw [h.hash]; exact blocks_len _ _ _ hs_len _
theorem Rn.start : Rn [] hs (List.replicate 64 0) :=
  ⟨by simp, fun x hx => by rw [List.mem_replicate] at hx; omega, rfl, by simp⟩
theorem splice_byt {L cs : List Int} {q : Nat} (h : ∀ x ∈ L, 0 ≤ x ∧ x ≤ 255) (h' : ∀ x ∈ cs, 0 ≤ x ∧ x ≤ 255) : ∀ x ∈ splice L q cs, 0 ≤ x ∧ x ≤ 255 := by
  intro x hx
  unfold splice at hx
  rw [List.mem_append, List.mem_append] at hx
  rcases hx with hx | hx | hx
  · exact h x (List.mem_of_mem_take hx)
  · exact h' x hx
  · exact h x (List.mem_of_mem_drop hx)
theorem splice_take {L cs : List Int} {q : Nat} (hq : q ≤ L.length) : (splice L q cs).take (q + cs.length) = L.take q ++ cs := by
  unfold splice
  rw [← List.append_assoc]
  exact List.take_left' (by simp; omega)
/-- Bytes that do not fill the block. -/
theorem Rn.some {b : List Int} {H : List Wd} {L cs : List Int} (h : Rn b H L) (hc : ∀ x ∈ cs, 0 ≤ x ∧ x ≤ 255) (hq : b.length % 64 + cs.length < 64) : Rn (b ++ cs) H (splice L (b.length % 64) cs) := by
  have hl := h.l64
  have e1 : (b ++ cs).length / 64 = b.length / 64 := by rw [List.length_append]; omega
  have e2 : (b ++ cs).length % 64 = b.length % 64 + cs.length := by rw [List.length_append]; omega
  refine ⟨by rw [length_splice _ _ _ (by omega)]; exact hl, splice_byt h.byt hc, ?_, ?_⟩
  · rw [e1, blocks_app _ _ _ (by omega)]; exact h.hash
  · rw [e1, e2, splice_take (by omega), h.last, List.drop_append_of_le_length (by omega)]
/-- Bytes that fill the block. -/
theorem Rn.full {b : List Int} {H : List Wd} {L cs : List Int} (h : Rn b H L) (hc : ∀ x ∈ cs, 0 ≤ x ∧ x ≤ 255) (hq : b.length % 64 + cs.length = 64) : Rn (b ++ cs) (adds H (rounds ks (sched 48 (words (splice L (b.length % 64) cs) 0 16)) H 64) 8) (splice L (b.length % 64) cs) := by
  have hl := h.l64
  have e1 : (b ++ cs).length / 64 = b.length / 64 + 1 := by rw [List.length_append]; omega
  have e2 : (b ++ cs).length % 64 = 0 := by rw [List.length_append]; omega
  have hls : (splice L (b.length % 64) cs).length = 64 := by rw [length_splice _ _ _ (by omega)]; exact hl
  have e3 : splice L (b.length % 64) cs = (b ++ cs).drop (64 * (b.length / 64)) := by
    have := splice_take (L := L) (cs := cs) (q := b.length % 64) (by omega)
    rw [hq, List.take_of_length_le (by omega), h.last] at this
    rw [this, List.drop_append_of_le_length (by omega)]
  refine ⟨hls, splice_byt h.byt hc, ?_, ?_⟩
  · rw [e1, blocks, blocks_app _ _ _ (by omega), ← h.hash]
    exact block_at _ _ _ _ _ e3
  · rw [e1, e2, List.take_zero, List.drop_of_length_le (by rw [List.length_append]; omega)]

/-! ### memory -/
/-- The cells of a run. -/
def rcells (H : List Wd) (L : List Int) (c : Nat) : List Value := wv H ++ (bv L ++ [.int .u64 (c : Int)])
theorem bv_len (l : List Int) : (bv l).length = l.length := by simp [bv]
theorem rcells_len {H : List Wd} {L : List Int} {c : Nat} (h : H.length = 8) (hl : L.length = 64) : (rcells H L c).length = 73 := by
  simp [rcells, wv_len, bv_len, h, hl]
theorem rcells_splice {H : List Wd} {L cs : List Int} {c q : Nat} (h : H.length = 8) (hq : q + cs.length ≤ L.length) : splice (rcells H L c) (8 + q) (bv cs) = rcells H (splice L q cs) c := by
  have hw : (wv H).length = 8 := by rw [wv_len, h]
  unfold splice rcells
  rw [bv_len, List.take_append, List.drop_append, hw, List.take_of_length_le (by omega), List.drop_of_length_le (by omega), List.nil_append, List.append_assoc,
    show 8 + q - 8 = q by omega, show 8 + q + cs.length - 8 = q + cs.length by omega, List.take_append_of_le_length (by rw [bv_len]; omega), List.drop_append_of_le_length (by rw [bv_len]; omega)]
  simp [bv, List.map_take, List.map_drop]
theorem rcells_count {H : List Wd} {L : List Int} {c d : Nat} (h : H.length = 8) (hl : L.length = 64) : (rcells H L c).toArray.setIfInBounds 72 (.int .u64 (d : Int)) = (rcells H L d).toArray := by
  have hw : (wv H).length = 8 := by rw [wv_len, h]
  have hb : (bv L).length = 64 := by rw [bv_len, hl]
  unfold rcells
  simp only [List.setIfInBounds_toArray]
  congr 1
  rw [List.set_append_right _ _ (by omega), hw, List.set_append_right _ _ (by omega), hb]
  rfl
theorem rcells_words {H H' : List Wd} {L : List Int} {c : Nat} (h : H.length = 8) (h' : H'.length = 8) : splice (rcells H L c) 0 (wv H') = rcells H' L c := by
  have hw : (wv H).length = 8 := by rw [wv_len, h]
  have hw' : (wv H').length = 8 := by rw [wv_len, h']
  unfold splice rcells
  rw [List.take_zero, List.nil_append, hw', List.drop_append, hw, List.drop_of_length_le (by omega), List.nil_append]
  simp
theorem setCells_blk {t : TypeId} (b : Nat) : ∀ (vs : List Value) (o : Nat) (cur : List Value) (w : World), w.heap[b]? = some (.cells cur.toArray t (0, 0)) → o + vs.length ≤ cur.length →
    (w.setCells b o vs).heap[b]? = some (.cells (splice cur o vs).toArray t (0, 0))
  | [], o, cur, w, h, _ => by simpa [World.setCells, splice] using h
  | v :: r, o, cur, w, h, hl => by
    rw [List.length_cons] at hl
    have h1 := heap_setCell_same w b o cur.toArray t v h
    rw [List.setIfInBounds_toArray] at h1
    rw [World.setCells, setCells_blk b r (o + 1) (cur.set o v) _ h1 (by rw [List.length_set]; omega)]
    congr 3
    unfold splice
    rw [List.length_cons, List.take_succ_eq_append_getElem (by rw [List.length_set]; omega), List.take_set_of_le (Nat.le_refl _), List.drop_set_of_lt (by omega)]
    simp [show o + 1 + r.length = o + (r.length + 1) by omega]
theorem setCells_other (b : Nat) : ∀ (vs : List Value) (o : Nat) (w : World) (k : Nat), k ≠ b → (w.setCells b o vs).heap[k]? = w.heap[k]?
  | [], _, _, _, _ => rfl
  | v :: r, o, w, k, h => by rw [World.setCells, setCells_other b r (o + 1) _ k h, heap_setCell_other _ _ _ _ h]
theorem setCells_os (b : Nat) : ∀ (vs : List Value) (o : Nat) (w : World), (w.setCells b o vs).os = w.os ∧ (w.setCells b o vs).tape = w.tape ∧ (w.setCells b o vs).output = w.output ∧ (w.setCells b o vs).heap.size = w.heap.size
  | [], _, _ => ⟨rfl, rfl, rfl, rfl⟩
  | v :: r, o, w => by
    obtain ⟨h1, h2, h3, h4⟩ := setCells_os b r (o + 1) (w.setCell ⟨b, o, none⟩ v)
    rw [World.setCells]
    exact ⟨h1, h2, h3, h4.trans (by simp [World.setCell])⟩
theorem Only.setCells (w : World) (b o : Nat) (vs : List Value) : Only (fun k => k = b) w (w.setCells b o vs) := by
  obtain ⟨h1, h2, h3, h4⟩ := setCells_os b vs o w
  exact ⟨h1, h2, h3, by omega, fun k _ hn => setCells_other b vs o w k hn⟩
theorem Only.setRow (w : World) (b : Nat) (cs : Array Value) : Only (fun k => k = b) w (w.setRow b cs) :=
  ⟨rfl, rfl, rfl, by simp, fun k _ hn => setRow_other w b k cs hn⟩

/-- A run lies in block R, behind the bytes b. -/
structure Run (w : World) (R : Nat) (b : List Int) (H : List Wd) (L : List Int) : Prop where
  blk : w.heap[R]? = some (.cells (rcells H L b.length).toArray 145 (0, 0))
  rn : Rn b H L
theorem Run.lt {w : World} {R : Nat} {b : List Int} {H : List Wd} {L : List Int} (h : Run w R b H L) : R < w.heap.size := (Array.getElem?_eq_some_iff.1 h.blk).1
theorem Run.count {w : World} {R : Nat} {b : List Int} {H : List Wd} {L : List Int} (h : Run w R b H L) : w.cell? ⟨R, 72, none⟩ = some (.int .u64 (b.length : Int)) ∧ w.frozen? ⟨R, 72, none⟩ = false := by
  refine ⟨cell_of_blk h.blk ?_, free_of_blk h.blk⟩
  have h1 := h.rn.h8
  have h2 := h.rn.l64
  rw [List.getElem?_toArray]
  unfold rcells
  rw [List.getElem?_append_right (by rw [wv_len]; omega), wv_len, List.getElem?_append_right (by rw [bv_len]; omega), bv_len, h1, h2]
  rfl
theorem Run.words {w : World} {R : Nat} {b : List Int} {H : List Wd} {L : List Int} (h : Run w R b H L) : w.rangeAt R 0 (wv H) := fun j v hv => by
  rw [Nat.zero_add]
  refine cell_of_blk h.blk ?_
  rw [List.getElem?_toArray]
  unfold rcells
  rw [List.getElem?_append_left (List.getElem?_eq_some_iff.1 hv).1]
  exact hv
theorem Run.bytes {w : World} {R : Nat} {b : List Int} {H : List Wd} {L : List Int} (h : Run w R b H L) : w.rangeAt R 8 (bv L) := fun j v hv => by
  refine cell_of_blk h.blk ?_
  have h1 := h.rn.h8
  rw [List.getElem?_toArray]
  unfold rcells
  rw [List.getElem?_append_right (by rw [wv_len]; omega), wv_len, h1, show 8 + j - 8 = j by omega, List.getElem?_append_left (List.getElem?_eq_some_iff.1 hv).1]
  exact hv
theorem Run.there {w : World} {R : Nat} {b : List Int} {H : List Wd} {L : List Int} (h : Run w R b H L) : w.there R 0 8 := fun j hj => by
  have h1 := h.rn.h8
  have := h.words j _ (wv_at (by omega))
  exact ⟨by rw [this]; rfl, free_of_blk h.blk⟩
theorem row_tail {k : IntKind} {w : World} {B b o n j : Nat} {xs : List Int} (h : Row k w B (some ⟨b, o, none⟩) n xs) (hj : j ≤ n) : Row k w B (some ⟨b, o + j, none⟩) (n - j) (xs.drop j) := by
  have hl := h.1
  refine ⟨by simp; omega, fun h0 => ?_⟩
  obtain ⟨b', o', e, hb, hc⟩ := h.2 (by omega)
  injection e with e
  injection e with e1 e2
  subst e1; subst e2
  refine ⟨b, o + j, rfl, hb, fun i hi => ?_⟩
  rw [Nat.add_assoc, hc (j + i) (by omega)]
  simp [List.getD]
theorem Tab.only {w w' : World} {R : Nat} (h : Tab w) (ho : Only (fun k => k = R) w w') (hR : Glo < R) : Tab w' :=
  ⟨Nat.lt_of_lt_of_le h.1 ho.size, fun j hj => (World.cell?_of_block (w := w) (ho.block 1 (Glo.con h.1) (by have := Glo.con hR; omega))).trans (h.2 j hj)⟩

/-- While bytes go into a run: zs are in, ys are not yet. -/
structure Ad (w : World) (R B : Nat) (b0 xs : List Int) (A : Option Addr) (m c : Nat) (zs ys : List Int) (H : List Wd) (L : List Int) (w' : World) : Prop where
  run : Run w' R (b0 ++ zs) H L
  row : Row .u8 w' B A m ys
  ne : 0 < m → ∀ b o, A = some ⟨b, o, none⟩ → b ≠ R
  le : B ≤ w.heap.size
  mc : m ≤ c
  all : xs = zs ++ ys
  only : Only (fun k => k = R) w w'
  tab : Tab w'
theorem Ad.next {w w' w3 : World} {R B bb oo m c j o' c' : Nat} {b0 xs zs ys : List Int} {H H' : List Wd} {L L' : List Int} (h : Ad w R B b0 xs (some ⟨bb, oo, none⟩) m c zs ys H L w') (hm : 0 < m) (hj : j ≤ m) (hR : Glo < R)
    (hr : Run w3 R (b0 ++ (zs ++ ys.take j)) H' L') (ho : Only (fun k => k = R) w' w3) (hoo : o' = oo + j ∨ m = j) (hc : m - j ≤ c') : Ad w R B b0 xs (some ⟨bb, o', none⟩) (m - j) c' (zs ++ ys.take j) (ys.drop j) H' L' w3 := by
  have hne := h.ne hm bb oo rfl
  refine ⟨hr, ?_, fun _ b o e => ?_, h.le, hc, ?_, h.only.trans ho (fun _ _ h => h), h.tab.only ho hR⟩
  · have hrow : Row .u8 w3 B (some ⟨bb, oo, none⟩) m ys := ho.row h.row (Nat.le_trans h.le h.only.size) (fun b o e _ => by
      injection e with e
      injection e with e1 e2
      omega)
    rcases hoo with rfl | rfl
    · exact row_tail hrow hj
    · refine ⟨by have := hrow.len; simp; omega, fun h0 => by omega⟩
  · injection e with e
    injection e with e1 e2
    omega
  · rw [List.append_assoc, List.take_append_drop]
    exact h.all
end Go.Proofs.YtppbpmmfcoblmaaDoor.Sha
