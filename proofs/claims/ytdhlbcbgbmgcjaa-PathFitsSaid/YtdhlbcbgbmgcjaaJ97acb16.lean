/- Lemmas that the proof stands on, in build order: GfSw Fam. -/
import Derived.WalkKit
import Derived.Deep.QuietTactic
import Derived.BigQuiet
import Derived.Test.YtdhlbcbgbmgcjaaJ1a85310
import Derived.Test.YtdhlbcbgbmgcjaaJ87d8111
/- Layer 15 (graph): the reference's Weight, as a contract. -/
namespace Go.Proofs.Ytdhlbcbgbmgcjaa.Gf
open Go.RowKit Rec Ints Ge

/-- The weight among the links from one on. -/
theorem wt_drop {L : List L3} {j : Nat} {l : L3} (h : L[j]? = some l) (a b : Int) : wt (L.drop j) a b = if joins a b l then l.2.2 else wt (L.drop (j + 1)) a b := by
  obtain ⟨hj, e⟩ := List.getElem?_eq_some_iff.1 h
  rw [List.drop_eq_getElem_cons hj, e]
  rfl

set_option maxHeartbeats 1600000 in
set_option maxRecDepth 100000 in
theorem refweight_any (N : Nt) (A A' : Option Addr) (n c m c' : Nat) (a b : Int) (w : World) (h : NAt w w.heap.size N A n c A' m c') (hm : m ≤ 1073741824) :
    Calls Try.prog 22 #[.agg #[.int .i64 N.ver, .slice A n c, .slice A' m c'], .int .i64 a, .int .i64 b] w fun e w' => e = .returned (.int .i64 (wt N.lk a b)) ∧ Below w.heap.size w w' := by
  obtain ⟨ver, st, lk⟩ := N
  have HB := Lib.hid (Bx.start h)
  have HLL : Hid (lk.length = m) := h.lk.len
  have HQ : Hid (wt (lk.drop 0) a b = wt lk a b) := by unfold Hid; rw [List.drop_zero]
  clear h
  simp only at HB ⊢
  obtain ⟨R, hR⟩ : ∃ R, wt lk a b = R := ⟨_, rfl⟩
  rw [hR] at HQ ⊢
  clear hR
  go_enter Try.func22, Try.ntmps22
  go_wp2
  generalize w.alloc (.cells #[.int .i64 ver, .slice A n c, .slice A' m c'] 25) = wA at *
  go_loopw [7] (fun i wr => ∃ j : Nat, j ≤ m ∧ i = .int .i64 (j : Int) ∧ Hid (wt (lk.drop j) a b = R) ∧ Hid (Bx w ⟨ver, st, lk⟩ A n c A' m c' wr)) (fun i _ => m - (intOf i).toNat)
  case atStart => exact ⟨0, Nat.zero_le _, rfl, HQ, HB⟩
  case round =>
    clear HQ HB
    obtain ⟨j, hj, rfl, HQ, HB⟩ := hrel
    have z2 : wr.cell? ⟨w.heap.size, 2, none⟩ = some (.slice A' m c') := cell_of_blk HB.out.blk rfl
    by_cases hlt : j < m
    · obtain ⟨bb, o, p, rfl, hbb, hp, c0, c1, c2⟩ := lk_at HB.out.at_.lk hlt
      have hd := wt_drop hp a b
      obtain ⟨la, lb, lw⟩ := p
      simp only at c0 c1 c2 hd
      have HB2 : Hid (Below w.heap.size w (wr.alloc (.cells #[.int .i64 la, .int .i64 lb, .int .i64 lw] 45))) := HB.out.bel.alloc HB.out.bel.size _
      have HBX := Lib.hid (HB.out.below ((Below.refl wr.heap.size wr).alloc (Nat.le_refl _) (.cells #[.int .i64 la, .int .i64 lb, .int .i64 lw] 45)))
      rw [HQ.out] at hd
      by_cases g1 : la = a
      · have dg1 : ((la : Int) == a) = true := beq_iff_eq.2 g1
        by_cases g2 : lb = b
        · have dg2 : ((lb : Int) == b) = true := beq_iff_eq.2 g2
          have HR : Hid (R = lw) := by rw [if_pos (joins_iff.2 (.inl ⟨g1, g2⟩))] at hd; exact hd
          clear hd hp HQ
          try clear g1
          try clear g2
          try clear g3
          try clear g4
          go_wp2
          go_ret
          exact ⟨by rw [HR.out]; rfl, HB2.out⟩
        · have dg2 : ((lb : Int) == b) = false := beq_eq_false_iff_ne.2 g2
          by_cases g3 : la = b
          · have dg3 : ((la : Int) == b) = true := beq_iff_eq.2 g3
            by_cases g4 : lb = a
            · have dg4 : ((lb : Int) == a) = true := beq_iff_eq.2 g4
              have HR : Hid (R = lw) := by rw [if_pos (joins_iff.2 (.inr ⟨g3, g4⟩))] at hd; exact hd
              clear hd hp HQ
              try clear g1
              try clear g2
              try clear g3
              try clear g4
              go_wp2
              go_ret
              exact ⟨by rw [HR.out]; rfl, HB2.out⟩
            · have dg4 : ((lb : Int) == a) = false := beq_eq_false_iff_ne.2 g4
              have HR : Hid (wt (lk.drop (j + 1)) a b = R) := by rw [if_neg (fun hh => by have h3 := joins_iff.1 hh; simp only at h3; omega)] at hd; exact hd.symm
              clear hd hp HQ
              try clear g1
              try clear g2
              try clear g3
              try clear g4
              go_wp2
              go_roundw
              case rel => exact ⟨j + 1, by omega, by go_num, HR, HBX⟩
              case measure => simp [intOf]; omega
          · have dg3 : ((la : Int) == b) = false := beq_eq_false_iff_ne.2 g3
            have HR : Hid (wt (lk.drop (j + 1)) a b = R) := by rw [if_neg (fun hh => by have h3 := joins_iff.1 hh; simp only at h3; omega)] at hd; exact hd.symm
            clear hd hp HQ
            try clear g1
            try clear g2
            try clear g3
            try clear g4
            go_wp2
            go_roundw
            case rel => exact ⟨j + 1, by omega, by go_num, HR, HBX⟩
            case measure => simp [intOf]; omega
      · have dg1 : ((la : Int) == a) = false := beq_eq_false_iff_ne.2 g1
        by_cases g3 : la = b
        · have dg3 : ((la : Int) == b) = true := beq_iff_eq.2 g3
          by_cases g4 : lb = a
          · have dg4 : ((lb : Int) == a) = true := beq_iff_eq.2 g4
            have HR : Hid (R = lw) := by rw [if_pos (joins_iff.2 (.inr ⟨g3, g4⟩))] at hd; exact hd
            clear hd hp HQ
            try clear g1
            try clear g2
            try clear g3
            try clear g4
            go_wp2
            go_ret
            exact ⟨by rw [HR.out]; rfl, HB2.out⟩
          · have dg4 : ((lb : Int) == a) = false := beq_eq_false_iff_ne.2 g4
            have HR : Hid (wt (lk.drop (j + 1)) a b = R) := by rw [if_neg (fun hh => by have h3 := joins_iff.1 hh; simp only at h3; omega)] at hd; exact hd.symm
            clear hd hp HQ
            try clear g1
            try clear g2
            try clear g3
            try clear g4
            go_wp2
            go_roundw
            case rel => exact ⟨j + 1, by omega, by go_num, HR, HBX⟩
            case measure => simp [intOf]; omega
        · have dg3 : ((la : Int) == b) = false := beq_eq_false_iff_ne.2 g3
          have HR : Hid (wt (lk.drop (j + 1)) a b = R) := by rw [if_neg (fun hh => by have h3 := joins_iff.1 hh; simp only at h3; omega)] at hd; exact hd.symm
          clear hd hp HQ
          try clear g1
          try clear g2
          try clear g3
          try clear g4
          go_wp2
          go_roundw
          case rel => exact ⟨j + 1, by omega, by go_num, HR, HBX⟩
          case measure => simp [intOf]; omega
    · have HR : Hid (R = 0) := by
        have h1 := HQ.out
        rw [List.drop_eq_nil_of_le (by have := HLL.out; omega)] at h1
        exact h1.symm
      go_wp2
      go_ret
      exact ⟨by rw [HR.out]; rfl, HB.out.bel⟩
end Go.Proofs.Ytdhlbcbgbmgcjaa.Gf

/- A region that draws its order and whose calls make new memory, over any program: one walk in the text's order, in a family of worlds that keep all that lay. -/
namespace Go.Proofs.Ytdhlbcbgbmgcjaa
open Go.RowKit

theorem wp_region_fam {P : Program} {ι : Type} (W : ι → World) (i0 : ι) {id : Nat} {Q : Exit → Act → World → Prop} {a : Act} {w : World} {l : List Oper} (hm : P.follows .mixedOrders = true) (hB : Region.lexB .any l.toArray = true) (h0 : w.drew = W i0)
    (h : wpQuiet P l.toArray (fun w' => ∃ i, w' = W i) (fun a' => ∀ w', (∃ i, w' = W i) → Q .normal a' w') l a) : (Code.region id l.toArray true).wp P Q a w :=
  wp_region_quiet (C := fun w' => ∃ i, w' = W i) hm hB ⟨i0, h0⟩ (by simpa using h)

/-- All worlds in which what lay in w lies as it lay. -/
theorem fam_of (w : World) : ∃ (ι : Type) (_ : Nonempty ι) (W : ι → World) (i0 : ι), w.drew = W i0 ∧ (∀ i, Below w.heap.size w (W i)) ∧ (∀ i w', Below (W i).heap.size (W i) w' → ∃ j, w' = W j) :=
  ⟨{ x : World // Below w.heap.size w x }, ⟨⟨w, Below.refl _ _⟩⟩, fun i => i.1, ⟨w.drew, (Below.refl _ _).drew⟩, rfl, fun i => i.2, fun i w' h => ⟨⟨w', i.2.trans (h.mono i.2.size)⟩, rfl⟩⟩

/-- A callee in such a family: it hands back one value, and leaves what lay. -/
theorem fam_call {P : Program} {ι : Type} {W : ι → World} {f : FuncId} {args : Array Value} {v : Value} {i : ι} (hW : ∀ i w', Below (W i).heap.size (W i) w' → ∃ j, w' = W j)
    (h : Calls P f args (W i) fun e w' => e = .returned v ∧ Below (W i).heap.size (W i) w') : Calls P f args (W i) fun e w' => e = .returned v ∧ ∃ j, w' = W j :=
  h.mono fun _ _ ⟨a, b⟩ => ⟨a, hW _ _ b⟩
end Go.Proofs.Ytdhlbcbgbmgcjaa
