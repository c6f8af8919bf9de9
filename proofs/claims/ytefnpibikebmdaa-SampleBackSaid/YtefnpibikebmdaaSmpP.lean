/- Layer 5 (sample): Put, as a contract. -/
import Derived.Test.YtefnpibikebmdaaSmpW
import Derived.Test.YtefnpibikebmdaaSmpF
namespace Go.Proofs.Ytefnpibikebmdaa.Smp
open Go.RowKit Var Fld

theorem good_take {l : List S} {k : Nat} {s : S} (h : good (l.take k) = true) (hk : l[k]? = some s) (hs : okp (l.take k) s = true) : good (l.take (k + 1)) = true := by
  rw [List.take_add_one, hk]
  exact good_snoc h hs

/-- What Put leaves. -/
def PutTo (ss : List S) (w : World) (e : Ending) (w' : World) : Prop :=
  ∃ v, e = .returned (.tuple #[v, .int .i64 (putE ss : Int)]) ∧ w'.ownsRow w.heap.size 5 1 v (putB ss).length ((putB ss).map (Value.int .u8)) ∧ Below w.heap.size w w'

theorem putTo_no {ss : List S} {w w' : World} {k : Nat} (he : putE ss = k) (hk : k ≠ 0) (hb : Below w.heap.size w w') : PutTo ss w (.returned (.tuple #[.slice none 0 0, .int .i64 (k : Int)])) w' := by
  subst he
  have : putB ss = [] := by unfold putB; rw [if_neg hk]
  refine ⟨_, rfl, ?_, hb⟩
  rw [this]
  exact World.ownsRow_nil _ _ _ _

set_option maxHeartbeats 1600000 in
set_option maxRecDepth 100000 in
theorem put_any (A : Option Addr) (n c : Nat) (ss : List S) (w : World) (h : SRow w w.heap.size A n ss) (hnc : n ≤ c) (hn : n ≤ 4398046511104) :
    Calls Try.prog 7 #[.slice A n c] w (PutTo ss w) := by
  have H := Lib.hid h
  have HN := Lib.hid hn
  have HL := Lib.hid h.len
  clear h
  go_enter Try.func7, Try.ntmps7
  by_cases hbig : 2048 < n
  · have he : putE ss = 3 := by unfold putE; rw [HL.out, if_pos hbig]
    go_wp2
    go_ret2
    exact putTo_no (k := 3) he (by omega) (Below.refl _ _)
  · go_wp2
    go_loopw [11] (fun i wr => ∃ k : Nat, k ≤ n ∧ i = .int .i64 (k : Int) ∧ Hid (good (ss.take k) = true) ∧ Hid (Below w.heap.size w wr)) (fun i _ => n - (intOf i).toNat)
    case atStart => exact ⟨0, Nat.zero_le _, rfl, rfl, Below.refl _ _⟩
    case round =>
      obtain ⟨k, hk, rfl, HG, HB⟩ := hrel
      by_cases hlt : k < n
      · obtain ⟨b, o, s, rfl, hbl, hs, hok, c0, c1, c2⟩ := (H.out.below HB.out).at hlt
        have HS := Lib.hid hs
        have hkw : IntKind.i64.wrap ((k : Int) + 1) = (k : Int) + 1 := IntWalk.i64_in _ ⟨by omega, by omega⟩
        have hkc : (k : Int) ≤ c := by omega
        obtain ⟨b0, b1, b2⟩ := boxed wr s 32
        have eC : s.cells = #[.int .i64 s.t, .int .i64 s.x, .int .i64 s.y] := rfl
        rw [eC] at b0 b1 b2
        have HB1 := Lib.hid (HB.out.alloc HB.out.size (.cells #[.int .i64 s.t, .int .i64 s.x, .int .i64 s.y] 32))
        have hsz1 : wr.heap.size < (wr.alloc (.cells #[.int .i64 s.t, .int .i64 s.x, .int .i64 s.y] 32)).heap.size := by simp
        have HSZ1 := Lib.hid hsz1
        clear hs eC hsz1
        go_wp2_with fail
        obtain ⟨fb, hfb⟩ : ∃ fb, wr.heap.size = fb := ⟨_, rfl⟩
        rw [hfb] at b0 b1 b2 HSZ1
        generalize wr.alloc (.cells #[.int .i64 s.t, .int .i64 s.x, .int .i64 s.y] 32) = wA at b0 b1 b2 HB1 HSZ1 ⊢
        rw [hfb]
        obtain ⟨ι, hne, W, i0, h0, hW, hC⟩ := fam_of wA
        have d0 : ∀ i, (W i).cell? ⟨fb, 0, none⟩ = some (.int .i64 s.t) := fun i => ((hW i).cell (p := ⟨fb, 0, none⟩) HSZ1.out).trans b0
        have d1 : ∀ i, (W i).cell? ⟨fb, 1, none⟩ = some (.int .i64 s.x) := fun i => ((hW i).cell (p := ⟨fb, 1, none⟩) HSZ1.out).trans b1
        have d2 : ∀ i, (W i).cell? ⟨fb, 2, none⟩ = some (.int .i64 s.y) := fun i => ((hW i).cell (p := ⟨fb, 2, none⟩) HSZ1.out).trans b2
        have HWW : ∀ i, Hid (Below w.heap.size w (W i)) := fun i => HB1.out.trans ((hW i).mono HB1.out.size)
        have HF : Hid (∀ i, Calls Try.prog 15 #[.slice (some ⟨b, o, none⟩) k c, .agg #[.int .i64 s.t, .int .i64 s.x, .int .i64 s.y]] (W i) fun e w' => e = .returned (.bool (okp (ss.take k) s)) ∧ Below (W i).heap.size (W i) w') :=
          fun i => follows_any (some ⟨b, o, none⟩) k c (ss.take k) s (W i) (((H.out.below (HWW i).out).take hk).more (HWW i).out.size) (by omega)
        have H0 := Lib.hid h0
        have HC := Lib.hid hC
        clear b0 b1 b2 h0 hW hC
        cases hokp : okp (ss.take k) s with
        | true =>
          rw [hokp] at HF
          refine wp_region_fam W i0 (by kernel_rfl) (by kernel_rfl) H0.out ?_
          repeat (go_big_quiet_step ((go_at_call 15; exact fam_call HC.out (HF.out _))))
          refine wpQuiet_nil ?_
          rintro _ ⟨i, rfl⟩
          go_wp2
          go_roundw
          case rel => exact ⟨k + 1, by omega, by go_num, good_take HG.out HS.out hokp, (HWW i).out⟩
          case measure => simp [intOf]; omega
        | false =>
          rw [hokp] at HF
          refine wp_region_fam W i0 (by kernel_rfl) (by kernel_rfl) H0.out ?_
          repeat (go_big_quiet_step ((go_at_call 15; exact fam_call HC.out (HF.out _))))
          refine wpQuiet_nil ?_
          rintro _ ⟨i, rfl⟩
          have he : putE ss = 2 := by unfold putE; rw [HL.out, if_neg hbig, good_no HS.out hokp]; simp
          go_wp2
          go_ret2
          exact putTo_no (k := 2) he (by omega) (HWW i).out
      · have hkn : k = n := by omega
        have hg : good ss = true := by have := HG.out; rwa [List.take_of_length_le (by rw [HL.out]; omega)] at this
        have HG1 := Lib.hid hg
        go_wp2_with fail
        refine (written_any A n c ss wr ((H.out.below HB.out).more HB.out.size) (fun s hs => good_may HG1.out hs) (by omega)).mono ?_
        rintro e w1 ⟨v, rfl, hown, hb1⟩
        have HO := Lib.hid hown
        have HB1 := Lib.hid hb1
        clear hown hb1
        go_wp2
        go_ret2
        have he : putE ss = 0 := by unfold putE; rw [HL.out, if_neg hbig, if_pos HG1.out]
        refine ⟨v, by rw [he]; rfl, ?_, HB.out.trans (HB1.out.mono HB.out.size)⟩
        rw [putB_ok he]
        exact own_base HO.out HB.out.size
end Go.Proofs.Ytefnpibikebmdaa.Smp
