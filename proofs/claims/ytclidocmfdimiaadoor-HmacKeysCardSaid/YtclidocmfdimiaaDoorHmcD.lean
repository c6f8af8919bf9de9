/- Layer 8 (hmac): the reference's Derive, as a contract. -/
import Derived.Test.YtclidocmfdimiaaDoorHmcR
import Derived.Test.YtclidocmfdimiaaDoorMin
namespace Go.Proofs.YtclidocmfdimiaaDoor.Hmc
open Go.RowKit Sha

/-- A string's bytes as numbers. -/
def sby (s : ByteArray) : List Int := s.data.toList.map fun x => (x.toNat : Int)

set_option maxHeartbeats 800000 in
set_option maxRecDepth 100000 in
theorem refderive_any (A A' : Option Addr) (n c n' c' : Nat) (k b : List Int) (s : ByteArray) (w : World) (h : Row .u8 w w.heap.size A n k) (h' : Row .u8 w w.heap.size A' n' b) (hnil : A = none → c = 0) (hnil' : A' = none → c' = 0) (hn : n ≤ 1099511627776) (hn' : n' ≤ 137438953472) (hs : s.size ≤ 137438953472) (hk : ∀ x ∈ k, 0 ≤ x ∧ x ≤ 255) (hb : ∀ x ∈ b, 0 ≤ x ∧ x ≤ 255) :
    Calls Tryd.prog 10 #[.slice A n c, .string s, .slice A' n' c'] w fun e w' => ∃ v, e = .returned v ∧ w'.ownsRow w.heap.size 5 1 v 32 ((mac k (sby s ++ 0 :: b)).map (Value.int .u8)) ∧ Below w.heap.size w w' := by
  obtain ⟨i0, hi, hz0, hz1, hz2⟩ := parts_of info8
  have H := Lib.hid h
  have H' := Lib.hid h'
  have HK := Lib.hid hk
  have HB := Lib.hid hb
  have HN := Lib.hid hnil
  have HN' := Lib.hid hnil'
  clear h h' hk hb hnil hnil'
  have kc := fun (w : World) => run_bytes_of_string (P := Tryd.prog) w 9 22 5 s Tryd.underlying9 Tryd.underlying22 Tryd.underlying5
  have hm0 := mine_bytes w 5 s (by omega)
  have hb0 := (Below.refl w.heap.size w).drew.alloc (Nat.le_refl _) (.cells (bytesRow s (grownCap w s.size 0 5)) 5 ((bytesRow s (grownCap w s.size 0 5)).size, (bytesRow s (grownCap w s.size 0 5)).size + 1))
  obtain ⟨cap, hcap⟩ : ∃ cap, grownCap w s.size 0 5 = cap := ⟨_, rfl⟩
  have kc0 := kc w
  rw [hcap] at hm0 hb0 kc0
  obtain ⟨O, hO⟩ : ∃ O, Obj.cells (bytesRow s cap) 5 ((bytesRow s cap).size, (bytesRow s cap).size + 1) = O := ⟨_, rfl⟩
  rw [hO] at hm0 hb0 kc0
  have HM1 : Hid (Mine ((w.alloc O).alloc (.cells #[.int .u8 0] 5)).drew w.heap.size 5 (.slice (some ⟨w.heap.size, 0, none⟩) s.size cap) s.size ((sby s).map (Value.int .u8))) := hm0.below ((Below.refl _ _).alloc (Nat.le_refl _) _)
  have HB1 : Hid (Below w.heap.size w ((w.alloc O).alloc (.cells #[.int .u8 0] 5)).drew) := hb0.alloc (by simp) _
  have HR1 : Hid (Row .u8 ((w.alloc O).alloc (.cells #[.int .u8 0] 5)).drew (w.heap.size + 1 + 1) (some ⟨w.heap.size + 1, 0, none⟩) 1 [0]) := by
    refine ⟨rfl, fun _ => ⟨w.heap.size + 1, 0, rfl, by omega, fun j hj => ?_⟩⟩
    obtain rfl : j = 0 := by omega
    exact cell_of_blk (w := ((w.alloc O).alloc (.cells #[.int .u8 0] 5)).drew) (heap_alloc2_new w O _) rfl
  clear kc hm0 hb0 hcap hO
  go_enter Tryd.func10, Tryd.ntmps10
  go_wp2_with (at_builtin; first
    | (refine cat_min rfl (.tmp 10) (.tmp 11) 22 rfl w.heap.size 5 i0 .u8 1 Tryd.underlying22 hi hz0 hz1 hz2 _ s.size (sby s) rfl HM1.out (w.heap.size + 1 + 1) (some ⟨w.heap.size + 1, 0, none⟩) 1 1 [0] rfl (fun h => by cases h) HR1.out (by omega) (by omega) HB1.out.size ?_; intro v2 w2 hown2 hb2; have HM2 := Lib.hid hown2; have HB2 := Lib.hid (HB1.out.trans hb2); clear hown2 hb2)
    | (refine cat_min rfl (.tmp 14) (.tmp 15) 22 rfl w.heap.size 5 i0 .u8 1 Tryd.underlying22 hi hz0 hz1 hz2 _ (s.size + 1) (sby s ++ [0]) rfl HM2.out w.heap.size A' n' c' b rfl HN'.out (H'.out.below HB2.out) (by omega) (by omega) HB2.out.size ?_; intro v3 w3 hown3 hb3; have HM3 := Lib.hid hown3; have HB3 := Lib.hid (HB2.out.trans hb3); clear hown3 hb3))
  obtain ⟨g3, c3, rfl, -, -⟩ := HM3.out.slice
  have hcat : sby s ++ [0] ++ b = sby s ++ 0 :: b := by simp
  rw [hcat] at HM3
  have HBY : Hid (∀ x ∈ sby s ++ 0 :: b, 0 ≤ x ∧ x ≤ 255) := fun x hx => by
    rcases List.mem_append.1 hx with hx | hx
    · unfold sby at hx
      obtain ⟨y, _, rfl⟩ := List.mem_map.1 hx
      have := y.toNat_lt
      omega
    · rcases List.mem_cons.1 hx with rfl | hx
      · omega
      · exact HB.out x hx
  clear hcat HM2
  refine (reftag_any A (some ⟨g3, 0, none⟩) n c (s.size + 1 + n') c3 k (sby s ++ 0 :: b) _ ((H.out.below HB3.out).more HB3.out.size) HM3.out.row HN.out (fun h => by cases h) hn (by omega) HK.out HBY.out).mono ?_
  rintro e4 w4 ⟨v4, rfl, hown4, hb4⟩
  have HO4 := Lib.hid hown4
  have HB4 := Lib.hid (HB3.out.trans (hb4.mono HB3.out.size))
  clear hown4 hb4
  go_wp2
  go_ret
  exact ⟨_, rfl, own_low HO4.out HB3.out.size, HB4.out⟩
end Go.Proofs.YtclidocmfdimiaaDoor.Hmc
