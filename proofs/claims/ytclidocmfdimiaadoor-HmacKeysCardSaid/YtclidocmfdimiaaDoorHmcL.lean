/- Layer 8 (hmac): what the program's Tag and Derive must do, and the example of the laws. -/
import Derived.Test.YtclidocmfdimiaaDoorHmcM
import Derived.Test.YtclidocmfdimiaaDoorPart
import Derived.Test.YtclidocmfdimiaaDoorShaC
import Derived.Test.YtclidocmfdimiaaDoorCell
import Derived.Test.YtclidocmfdimiaaDoorOwn
import Derived.Lib.OthersKept
namespace Go.Proofs.YtclidocmfdimiaaDoor.Hmc
open Go.RowKit Sha Slc

/-- What a program's Tag must do. -/
def TagOk : Prop := ∀ (A A' : Option Addr) (n c n' c' : Nat) (k : List Int) (L : List Part) (w : World), Row .u8 w w.heap.size A n k → (A = none → c = 0) → n ≤ c → (∀ x ∈ k, 0 ≤ x ∧ x ≤ 255) → Prs w w.heap.size A' n' L → (A' = none → c' = 0) → n' ≤ c' → n ≤ 100000 → n' ≤ 100000 → total L ≤ 100000 → Lay w →
  Calls Tryd.prog 7 #[.slice A n c, .slice A' n' c'] w fun e w' => ∃ v, e = .returned v ∧ w'.ownsRow w.heap.size 5 1 v 32 ((mac k (whole L)).map (Value.int .u8)) ∧ Below w.heap.size w w'

/-- The text of the example. -/
def wdy : ByteArray := ⟨#[119, 104, 97, 116, 32, 100, 111, 32, 121, 97, 32, 119, 97, 110, 116, 32, 102, 111, 114, 32, 110, 111, 116, 104, 105, 110, 103, 63]⟩
def wdl : List Int := [119, 104, 97, 116, 32, 100, 111, 32, 121, 97, 32, 119, 97, 110, 116, 32, 102, 111, 114, 32, 110, 111, 116, 104, 105, 110, 103, 63]
theorem wdy_size : wdy.size = 28 := rfl
theorem wdy_low : ∀ (p : Nat) (h : p < wdy.size), (wdy[p]'h).toNat < 128 := by decide +kernel
theorem wdy_at : ∀ (p : Nat) (h : p < wdy.size), wdl.getD p 0 = ((wdy[p]'h).toNat : Int) := by decide +kernel
theorem own_iter {w : World} {base n : Nat} {e : TypeId} {v : Value} {xs : List Value} (h : w.ownsRow base e 1 v n xs) {k : Nat} (hk : k < base) (s : ByteArray) (p : Nat) : (w.iterAt k s p).ownsRow base e 1 v n xs := by
  refine ⟨h.1, ?_⟩
  rcases h.2 with h2 | ⟨g, cap, cur, a, b, c, d⟩
  · exact .inl h2
  · exact .inr ⟨g, cap, cur, a, b, by rw [Lib.iterAt_other _ _ _ _ _ (by omega)]; exact c, d⟩
theorem iter_pos {w : World} {k : Nat} {s : ByteArray} {p : Nat} (h : w.heap[k]? = some (.stringIter s p)) : w.iterPos k = p := by simp [World.iterPos, h]

set_option maxHeartbeats 1600000 in
set_option maxRecDepth 100000 in
theorem awake_any (htag : TagOk) (w : World) (hT : Lay w) : Calls Tryd.prog 5 #[] w fun e w' => e = .returned (.bool true) ∧ Below w.heap.size w w' := by
  obtain ⟨i0, hi, hz0, hz1, hz2⟩ := parts_of info8
  have HT := Lib.hid hT
  clear hT
  go_enter Tryd.func5, Tryd.ntmps5
  go_wp2
  generalize hwx : World.iter w _ 0 = wx
  have hw2 : w.iter wdy 0 = wx := hwx
  clear hwx
  have hsz := wdy_size
  have hlow := Lib.hid wdy_low
  have hat := Lib.hid wdy_at
  have hll : wdl.length = 28 := rfl
  have HBYT : Hid (∀ x ∈ wdl, 0 ≤ x ∧ x ≤ 255) := by refine Lib.hid ?_; decide
  have HE : Hid (mac [74, 101, 102, 101] wdl = _) := jefe
  generalize wdy = s at hsz hlow hat hw2
  subst hw2
  have HB0 : Hid (Below w.heap.size w (w.iter s 0)) := (Below.refl _ _).alloc (Nat.le_refl _) _
  have HO0 : Hid ((w.iter s 0).ownsRow (w.heap.size + 1) 5 1 (.slice none 0 0) 0 ((wdl.take 0).map (Value.int .u8))) := World.ownsRow_nil _ _ _ _
  generalize wdl = l at hat hll HE HO0 HBYT
  go_loopw [1] (fun v wr => ∃ pos : Nat, pos ≤ 28 ∧ wr.heap[w.heap.size]? = some (.stringIter s pos) ∧ Hid (wr.ownsRow (w.heap.size + 1) 5 1 v pos ((l.take pos).map (Value.int .u8))) ∧ Hid (Below w.heap.size w wr)) (fun _ wr => 28 - wr.iterPos w.heap.size)
  case atStart => exact ⟨0, by omega, World.iter_heap w s 0, HO0, HB0⟩
  case round =>
    obtain ⟨pos, hp, hit, HO, HB⟩ := hrel
    have hpos0 := iter_pos hit
    by_cases hlt : pos < 28
    · have hps : pos < s.size := by omega
      have hnx := fun ty => Lib.run_next_ascii_at (P := Tryd.prog) wr w.heap.size s pos ty hit hps (hlow.out pos hps)
      have hl1 := hlow.out pos hps
      have hit2 := Lib.iterAt_heap wr w.heap.size s pos (pos + 1) hit
      have HO2 := Lib.hid (own_iter HO.out (k := w.heap.size) (by omega) s (pos + 1))
      have HB2 := Lib.hid (Lib.below_iterAt HB.out (k := w.heap.size) (Nat.le_refl _) s (pos + 1))
      have HA : Hid (l.take (pos + 1) = l.take pos ++ [((s[pos]'hps).toNat : Int)]) := by
        rw [← hat.out pos hps]
        refine Lib.hid ?_
        rw [List.take_succ_eq_append_getElem (by omega)]
        simp [List.getD, show pos < l.length by omega]
      generalize (s[pos]'hps).toNat = x at hnx hl1 HA
      generalize wr.iterAt w.heap.size s (pos + 1) = w1 at hnx hit2 HO2 HB2
      clear hit HO HB
      have hlt1 : w.heap.size < w1.heap.size := (Array.getElem?_eq_some_iff.1 hit2).1
      go_wp2_with (at_builtin; refine push_own rfl (.tmp 9) (.tmp 12) 22 rfl (w.heap.size + 1) 5 i0 .u8 1 Tryd.underlying22 hi hz0 hz1 hz2 _ pos (l.take pos) (x : Int) rfl HO2.out rfl (by omega) (by omega) hlt1 ?_; intro v3 w3 hown3 hb3; have HO3 := Lib.hid hown3; have HB3 := Lib.hid (HB2.out.trans (hb3.mono (by omega))); have hit3 := (hb3.block w.heap.size (by omega)).trans hit2; clear hown3 hb3)
      go_roundw
      case rel => exact ⟨pos + 1, by omega, hit3, by rw [HA.out]; exact HO3, HB3⟩
      case measure => rw [iter_pos hit3, hpos0]; omega
    · obtain rfl : pos = 28 := by omega
      have hnx := fun ty => Lib.run_next_end_at (P := Tryd.prog) wr w.heap.size s 28 ty hit (by omega)
      rw [List.take_of_length_le (by omega)] at HO
      obtain ⟨A, c, rfl, hcap, hnil⟩ := own_slice HO.out
      have HR : Hid (Row .u8 wr wr.heap.size A 28 l) := Row.of_own HO.out
      have HNC := Lib.hid hcap
      have HNIL := Lib.hid hnil
      clear HO hcap hnil hat hlow
      have HB1 : Hid (Below w.heap.size w ((wr.alloc (.cells #[.int .u8 74, .int .u8 101, .int .u8 102, .int .u8 101] 5)).alloc (.cells #[.slice A 28 c] 22))) := (HB.out.alloc HB.out.size _).alloc (by have := HB.out.size; simp; omega) _
      have hbw : Below wr.heap.size wr ((wr.alloc (.cells #[.int .u8 74, .int .u8 101, .int .u8 102, .int .u8 101] 5)).alloc (.cells #[.slice A 28 c] 22)) := ((Below.refl _ _).alloc (Nat.le_refl _) _).alloc (by simp) _
      have HR1 := Lib.hid ((HR.out.below hbw).more hbw.size)
      have HLY := Lib.hid (HT.out.below HB1.out HT.out.tab.1)
      have HK : Hid (Row .u8 ((wr.alloc (.cells #[.int .u8 74, .int .u8 101, .int .u8 102, .int .u8 101] 5)).alloc (.cells #[.slice A 28 c] 22)) (wr.heap.size + 1 + 1) (some ⟨wr.heap.size, 0, none⟩) 4 [74, 101, 102, 101]) := by
        refine ⟨rfl, fun _ => ⟨wr.heap.size, 0, rfl, by omega, fun j hj => ?_⟩⟩
        rw [Nat.zero_add]
        refine cell_of_blk (heap_alloc2_old wr _ _) ?_
        match j, hj with
        | 0, _ => rfl
        | 1, _ => rfl
        | 2, _ => rfl
        | 3, _ => rfl
      have HP : Hid (Prs ((wr.alloc (.cells #[.int .u8 74, .int .u8 101, .int .u8 102, .int .u8 101] 5)).alloc (.cells #[.slice A 28 c] 22)) (wr.heap.size + 1 + 1) (some ⟨wr.heap.size + 1, 0, none⟩) 1 [⟨A, 28, c, l⟩]) := by
        refine Prs.of_blk (B := wr.heap.size + 1 + 1) (g := wr.heap.size + 1) (L := [⟨A, 28, c, l⟩]) (heap_alloc2_new wr _ _) (by omega) rfl ?_ ?_
        · intro p hp
          obtain rfl : p = _ := List.mem_singleton.1 hp
          exact ⟨by simpa using HR1.out, HNIL.out⟩
        · intro p hp
          obtain rfl : p = _ := List.mem_singleton.1 hp
          exact ⟨HNC.out, HBYT.out⟩
      have HS : Hid (((wr.alloc (.cells #[.int .u8 74, .int .u8 101, .int .u8 102, .int .u8 101] 5)).alloc (.cells #[.slice A 28 c] 22)).heap.size = wr.heap.size + 1 + 1) := by unfold Hid; simp
      clear hbw HR HR1
      go_wp2_with fail
      refine (htag _ _ 4 4 1 1 [74, 101, 102, 101] [⟨A, 28, c, l⟩] _ (by rw [HS.out]; exact HK.out) (fun h => by cases h) (by omega) (by decide) (by rw [HS.out]; exact HP.out) (fun h => by cases h) (by omega) (by omega) (by omega) (by simp [total]) HLY.out).mono ?_
      rintro e2 w2 ⟨v2, rfl, hown2, hb2⟩
      have e : whole [⟨A, 28, c, l⟩] = l := by simp [whole]
      rw [e, HE.out] at hown2
      clear e
      have HB2 := Lib.hid (HB1.out.trans (hb2.mono HB1.out.size))
      obtain ⟨g, c, rfl, hc⟩ := own_cell hown2 (by omega)
      have k0 : w2.cell? ⟨g, 0, none⟩ = some (.int .u8 91) := hc 0 (by omega)
      have k1 : w2.cell? ⟨g, 1, none⟩ = some (.int .u8 220) := hc 1 (by omega)
      have k2 : w2.cell? ⟨g, 2, none⟩ = some (.int .u8 193) := hc 2 (by omega)
      have k3 : w2.cell? ⟨g, 3, none⟩ = some (.int .u8 70) := hc 3 (by omega)
      clear hown2 hb2 hc
      go_wp2
      go_ret
      exact ⟨rfl, HB2.out⟩
end Go.Proofs.YtclidocmfdimiaaDoor.Hmc
