/- Lemmas that the proof stands on, in build order: PdD. -/
import Derived.Test.YtdhlbcbgbmgcjaaJ34cc50b6
/- Layer 17 (path), the landed program: distances, as a contract. -/
namespace Go.Proofs.Ytdhlbcbgbmgcjaa.Pt
open Go.RowKit Rec Ints Ge Gf Pa

/-- .. and the block of what came off the heap. -/
structure Dq (w0 : World) (n g p5 p6 : Nat) (a : Addr) (xs : List Int) (H : List C) (M : Nat → Prop) (q : Nat) (p : C) (wr : World) : Prop where
  ds : Ds w0 n g p5 p6 a xs H M wr
  box : wr.heap[q]? = some (.cells #[.int .i64 p.1, .int .i64 p.2] 62 (0, 0))
  off : ¬ M q
  low : w0.heap.size ≤ q
  ne : q ≠ g ∧ q ≠ p5 ∧ q ≠ p6
section
variable {w0 wr w1 : World} {n g p5 p6 q : Nat} {a : Addr} {xs xs' : List Int} {H H' : List C} {M M' : Nat → Prop} {p : C}
theorem Dq.lt (h : Dq w0 n g p5 p6 a xs H M q p wr) : q < wr.heap.size := (Array.getElem?_eq_some_iff.1 h.box).1
theorem Dq.below (h : Dq w0 n g p5 p6 a xs H M q p wr) (hb : Below wr.heap.size wr w1) : Dq w0 n g p5 p6 a xs H M q p w1 :=
  ⟨h.ds.below hb, (hb.block _ h.lt).trans h.box, h.off, h.low, h.ne⟩
theorem Dq.turn (h : Dq w0 n g p5 p6 a xs H M q p wr) (hd : Ds w0 n g p5 p6 a xs' H' M' w1) (ho : Only (fun k => k = g ∨ M k) wr w1) (hM : ∀ k, M' k → M k ∨ wr.heap.size ≤ k) : Dq w0 n g p5 p6 a xs' H' M' q p w1 :=
  ⟨hd, ho.at h.box (fun e => e.elim h.ne.1 h.off), fun e => (hM q e).elim h.off (fun e => by have := h.lt; omega), h.low, h.ne⟩
/-- Another one came off. -/
theorem Dq.put (h : Dq w0 n g p5 p6 a xs H M q p wr) (p' : C) : Dq w0 n g p5 p6 a xs H M q p' ((wr.setCell ⟨q, 0, none⟩ (.int .i64 p'.1)).setCell ⟨q, 1, none⟩ (.int .i64 p'.2)) := by
  have ho : Only (fun k => k = q) wr ((wr.setCell ⟨q, 0, none⟩ (.int .i64 p'.1)).setCell ⟨q, 1, none⟩ (.int .i64 p'.2)) := (Only.setCell wr ⟨q, 0, none⟩ (.int .i64 p'.1)).trans (Only.setCell _ ⟨q, 1, none⟩ (.int .i64 p'.2)) (fun _ _ h => h)
  have hs := h.ds.lt
  have hne := h.ne
  refine ⟨⟨ho.at h.ds.far (fun e => hne.2.1 e.symm), ho.at h.ds.end_ (fun e => hne.2.2 e.symm), h.ds.hold.keep (ho.block g hs.2.2 (fun e => hne.1 e.symm)), h.ds.heap.keep fun k hk => ho.block k (h.ds.heap.lies k hk).2 (fun e => h.off (by rw [← e]; exact hk)), h.ds.sep, h.ds.low, h.ds.bel.trans (ho.below h.ds.bel.size fun k hk => by rw [hk]; exact h.low)⟩, ?_, h.off, h.low, h.ne⟩
  exact Sto.whole_set (vs := #[.int .i64 p'.1, .int .i64 p'.2]) h.box rfl
end
/-- Ahead of each round: what came off, or nothing. -/
def Hd (N : Nt) (s : Nat) (xs : List Int) (H : List C) (p : C) (th : Bool) (mu : Nat) : Prop :=
  ∃ (D : Nat → Bool) (T : Int) (u k : Nat), mu + k = 40000 ∧ k ≤ 32769 ∧ H.length ≤ 32769 ∧ (th = true → ∃ H0, Dj N s xs H0 D T u [] k ∧ H0.Perm (p :: H) ∧ ∀ q ∈ H, decide (q.2 < p.2) = false) ∧ (th = false → H = [] ∧ Dj N s xs [] D T u [] k)
theorem Hd.pop {N : Nt} {s u k : Nat} {xs : List Int} {H H' : List C} {D : Nat → Bool} {T : Int} {p : C} (h : Dj N s xs H D T u [] k) (hN : Valid N) (hp : H.Perm (p :: H')) (hm : ∀ q ∈ H', ltR q p = false) : Hd N s xs H' p true (40000 - k) := by
  have h9 := h.few hN
  have hl := hp.length_eq
  rw [List.length_cons] at hl
  exact ⟨D, T, u, k, by omega, by omega, by omega, fun _ => ⟨H, h, hp, hm⟩, fun h => by cases h⟩
theorem Hd.end_ {N : Nt} {s u k : Nat} {xs : List Int} {D : Nat → Bool} {T : Int} {p : C} (h : Dj N s xs [] D T u [] k) (hN : Valid N) : Hd N s xs [] p false (40000 - k) := by
  have h9 := h.few hN
  exact ⟨D, T, u, k, by omega, by omega, by simp, fun h => (by cases h), fun _ => ⟨rfl, h⟩⟩
/-- .. and in memory. -/
def Jd (N : Nt) (s : Nat) (w0 : World) (n g p5 p6 : Nat) (a : Addr) (v8 v9 : Value) (wr : World) (mu : Nat) : Prop :=
  ∃ (q : Nat) (p : C) (th : Bool) (xs : List Int) (H : List C) (M : Nat → Prop), v8 = .pointer (some ⟨q, 0, none⟩) ∧ v9 = .bool th ∧ Dq w0 n g p5 p6 a xs H M q p wr ∧ Hd N s xs H p th mu

set_option maxHeartbeats 4000000 in
set_option maxRecDepth 100000 in
theorem distances_any (N : Nt) (hN : Valid N) (t n : Nat) (V : List Value) (s : Nat) (w : World) (hR : Rws w w.heap.size t N V) (hn : N.st.length = n) (hs : s < n) :
    Calls Try.prog 17 #[.slice (some ⟨t, 0, none⟩) n n, .int .i64 (s : Int)] w fun e w' => ∃ g, e = .returned (.slice (some ⟨g, 0, none⟩) n n) ∧ Hold intS w' w.heap.size 3 g n (farL N s) ∧ Below w.heap.size w w' := by
  have hn9 : n ≤ 4096 := by have := hN.ns; omega
  have HRW := Lib.hid hR
  have HV := Lib.hid hN
  have HLS := Lib.hid hn
  have HK := Lib.hid (heapR w.heap.size)
  have hb1 := (Below.refl w.heap.size w).alloc (Nat.le_refl _) (.cells #[.int .i64 (-1)] 3)
  have HX1 := Lib.hid (heap_alloc_new w (.cells #[.int .i64 (-1)] 3))
  have HB1 := Lib.hid hb1
  clear hb1 hR hN hn
  go_enter Try.func17, Try.ntmps17
  go_wp2_with fail
  generalize w.alloc (.cells #[.int .i64 (-1)] 3) = w1 at *
  refine (Rpt.repeat_any (-1) w.heap.size n hn9 w1 HX1.out).mono ?_
  rintro e2 w2 ⟨g, rfl, hh2, hb2⟩
  have HB2 := Lib.hid (HB1.out.trans (hb2.mono HB1.out.size))
  have HH2 := Lib.hid (hh2.down HB1.out.size)
  have hg2 := hh2.lt
  have hg3 := hh2.le
  have hbs1 := HB1.out.size
  clear hh2 hb2 HX1 HB1
  -- the variable far
  have HB3 := Lib.hid ((Below.refl w2.heap.size w2).alloc (Nat.le_refl _) (.cells #[.slice (some ⟨g, 0, none⟩) n n] 27))
  have HX3 := Lib.hid (heap_alloc_new w2 (.cells #[.slice (some ⟨g, 0, none⟩) n n] 27))
  obtain ⟨p5, hp5⟩ : ∃ p5, w2.heap.size = p5 := ⟨_, rfl⟩
  have hs3 : (w2.alloc (.cells #[.slice (some ⟨g, 0, none⟩) n n] 27)).heap.size = p5 + 1 := by simp [hp5]
  have hbs2 := HB2.out.size
  have HB3' := Lib.hid (HB2.out.trans (HB3.out.mono HB2.out.size))
  have HH3 := Lib.hid (HH2.out.below HB3.out)
  rw [hp5] at HX3 hg2 hbs2
  go_wp2_with fail
  try rw [hp5]
  generalize w2.alloc (.cells #[.slice (some ⟨g, 0, none⟩) n n] 27) = w3 at *
  clear HH2 HB2 HB3 hp5
  clear w2
  refine (HK.out.new w3 trivial (by omega)).mono ?_
  rintro e4 w4 ⟨a, M4, rfl, hh4, hm4, hb4⟩
  have hs4 := hb4.size
  have HH4 := Lib.hid (HH3.out.below hb4)
  have HX4 := Lib.hid ((hb4.block _ (by omega)).trans HX3.out)
  have HB4 := Lib.hid (HB3'.out.trans (hb4.mono HB3'.out.size))
  have HE4 := Lib.hid hh4
  have HM4 := Lib.hid hm4
  have hml : ∀ k, M4 k → k < w4.heap.size := fun k hk => (hh4.lies k hk).2
  clear hh4 hm4 hb4 HH3 HX3 HB3'
  have hb5 := (Below.refl w4.heap.size w4).alloc (Nat.le_refl _) (.cells #[.pointer (some a)] 59)
  have HD5 : Hid (Ds w n g p5 w4.heap.size a (List.replicate n (-1)) [] M4 (w4.alloc (.cells #[.pointer (some a)] 59))) :=
    ⟨(hb5.block _ (by omega)).trans HX4.out, heap_alloc_new w4 _, HH4.out.below hb5, HE4.out.keep fun k hk => hb5.block k (hml k hk), ⟨fun h => by have := HM4.out _ h; omega, fun h => by have := hml _ h; omega, fun h => by have := HM4.out _ h; omega⟩, by omega, HB4.out.trans (hb5.mono HB4.out.size)⟩
  obtain ⟨p6, hp6⟩ : ∃ p6, w4.heap.size = p6 := ⟨_, rfl⟩
  rw [hp6] at HD5
  clear hb5 hml HH4 HX4 HB4 HE4 HM4
  go_wp2_with fail
  try rw [hp6]
  generalize w4.alloc (.cells #[.pointer (some a)] 59) = w5 at *
  clear hp6 hs4
  clear w4
  have hl5 : (List.replicate n (-1 : Int)).length = n := List.length_replicate
  refine (reach_yes w w5 n g p5 p6 a (List.replicate n (-1)) [] M4 s 0 HD5.out hs hl5 (by simp) (.inl ?_)).mono ?_
  · unfold gx
    rw [List.getD_eq_getElem?_getD, List.getElem?_replicate, if_pos hs]
    rfl
  rintro e6 w6 ⟨rfl, M6, hd6, -, -⟩
  have HD6 := Lib.hid hd6
  have HJ6 : Hid (Dj N s ((List.replicate n (-1)).set s 0) [((s : Int), 0)] (fun _ => false) 0 0 [] 0) := by
    have h1 := Dj.start HV.out (s := s) (by rw [HLS.out]; exact hs)
    rw [HLS.out] at h1
    exact h1
  clear hd6 HD5 hl5
  have c6 := cell_of_blk (j := 0) HD6.out.end_ rfl
  go_wp2_with fail
  refine (HK.out.pop w6 M6 a [((s : Int), 0)] trivial HD6.out.heap (by simp) (by simp)).mono ?_
  rintro e7 w7 ⟨p, H7, rfl, hp7, hm7, M7, hh7, ho7, hn7⟩
  have HD7 := Lib.hid (HD6.out.turn hh7 ho7 hn7)
  have HH7 := Lib.hid (Hd.pop HJ6.out HV.out hp7 hm7)
  clear hp7 hm7 hh7 ho7 hn7 HD6 HJ6 c6
  have hb8 := (Below.refl w7.heap.size w7).alloc (Nat.le_refl _) (.cells #[.int .i64 p.1, .int .i64 p.2] 62)
  have hsz := HD7.out.lt
  have hbz := HD7.out.bel.size
  have HQ8 : Hid (Dq w n g p5 p6 a ((List.replicate n (-1)).set s 0) H7 M7 w7.heap.size p (w7.alloc (.cells #[.int .i64 p.1, .int .i64 p.2] 62))) :=
    ⟨HD7.out.below hb8, heap_alloc_new w7 _, fun h => by have := (HD7.out.heap.lies _ h).2; omega, hbz, by omega, by omega, by omega⟩
  clear hb8 HD7
  unfold pl
  go_wp2
  obtain ⟨q8, hq8⟩ : ∃ q8, w7.heap.size = q8 := ⟨_, rfl⟩
  rw [hq8] at HQ8
  try rw [hq8]
  generalize w7.alloc (.cells #[.int .i64 p.1, .int .i64 p.2] 62) = w8 at *
  clear hsz hbz hq8
  clear w7
  go_loopw [8, 9, 11, 46] (fun v8 v9 _ _ wr => ∃ mu, Hid (Jd N s w n g p5 p6 a v8 v9 wr mu)) (fun v8 v9 _ _ wr => lst (Jd N s w n g p5 p6 a v8 v9 wr))
  case atStart => exact ⟨_, q8, p, true, _, H7, M7, rfl, rfl, HQ8.out, HH7.out⟩
  case round =>
    clear HQ8 HH7
    obtain ⟨mu0, hJ0⟩ := hrel
    obtain ⟨mu, hJ, hmu⟩ := lst_at hJ0.out
    clear hJ0 mu0
    obtain ⟨q, p, th, xs, H, M, rfl, rfl, hq, hd⟩ := hJ
    have HMU := Lib.hid hmu
    have HQ := Lib.hid hq
    clear hmu hq
    obtain ⟨D, T, u, k, hmk, hk9, hH9, htt, hff⟩ := hd
    cases th with
    | false =>
      obtain ⟨rfl, hj⟩ := hff rfl
      have HF := Lib.hid (hj.done HV.out)
      clear htt hff hj
      have c5 := cell_of_blk (j := 0) HQ.out.ds.far rfl
      go_wp2
      go_ret
      refine ⟨g, rfl, ?_, HQ.out.ds.bel⟩
      rw [← HF.out]
      exact HQ.out.ds.hold
    | true =>
      obtain ⟨H0, hj, hp, hm⟩ := htt rfl
      obtain ⟨v, e1, h1, h2, h3, h4, h5⟩ := hj.at_ hp
      obtain ⟨p1, y⟩ := p
      simp only at e1 h3 h4 h5
      subst e1
      rw [HLS.out] at h1
      have hxl : xs.length = n := by rw [hj.len]; exact HLS.out
      have HX := Lib.hid hxl
      have x0 := cell_of_blk (j := 0) HQ.out.box rfl
      have x1 := cell_of_blk (j := 1) HQ.out.box rfl
      have c5 := cell_of_blk (j := 0) HQ.out.ds.far rfl
      have cg := hold_x HQ.out.ds.hold (gx_at (v := v) (by rw [hxl]; exact h1))
      have a1 : (0 : Int) ≤ (v : Int) := by omega
      have a2 : (v : Int) < (n : Int) := by omega
      by_cases hst : gx xs v < y
      · have HJ := Lib.hid (hj.stale hp hm rfl hst)
        obtain ⟨f, hf⟩ : ∃ f, gx xs v = f := ⟨_, rfl⟩
        rw [hf] at cg hst
        have e2 : decide (f < y) = true := decide_eq_true hst
        clear htt hff hj hp hm h2 h3 h4 h5 hxl hf
        go_upto_region 8 with fail
        go_quiet (fail)
        have HQd := Lib.hid (HQ.out.below (below_drewN (Below.refl _ _) nq))
        clear HQ c5 cg x0 x1
        obtain ⟨wd, hwd⟩ : ∃ wd, wr.drewN nq = wd := ⟨_, rfl⟩
        rw [hwd] at HQd
        try rw [hwd]
        clear hwd
        obtain ⟨wr, rfl⟩ : ∃ wr, wr = wd := ⟨_, rfl⟩
        have HQ := HQd
        clear HQd
        go_upto_region 14 with fail
        have x0 := cell_of_blk (j := 0) HQ.out.box rfl
        have x1 := cell_of_blk (j := 1) HQ.out.box rfl
        have hb1 := (Below.refl wr.heap.size wr).alloc (Nat.le_refl _) (.cells #[.int .i64 (v : Int), .int .i64 y] 62)
        have hsz := HQ.out.ds.lt
        have hbz := HQ.out.ds.bel.size
        have HQ1 : Hid (Dq w n g p5 p6 a xs H M wr.heap.size ((v : Int), y) (wr.alloc (.cells #[.int .i64 (v : Int), .int .i64 y] 62))) :=
          ⟨HQ.out.ds.below hb1, heap_alloc_new wr _, fun h => by have := (HQ.out.ds.heap.lies _ h).2; omega, hbz, by omega, by omega, by omega⟩
        clear hb1
        go_upto_region 7 with fail
        clear x0 x1 HQ
        obtain ⟨q1, hq1⟩ : ∃ q1, wr.heap.size = q1 := ⟨_, rfl⟩
        rw [hq1] at HQ1
        try rw [hq1]
        generalize wr.alloc (.cells #[.int .i64 (v : Int), .int .i64 y] 62) = w1 at *
        clear hsz hbz hq1
        have c6 := cell_of_blk (j := 0) HQ1.out.ds.end_ rfl
        have hfew := (HJ.out.few HV.out).1
        have hkf := (HJ.out.few HV.out).2
        by_cases hH : H = []
        · subst hH
          go_wp2_with fail
          refine (HK.out.pop0 w1 M a trivial HQ1.out.ds.heap).mono ?_
          rintro e7 w7 ⟨rfl, M7, hh7, ho7, hn7⟩
          have HQ7 := Lib.hid (HQ1.out.turn (HQ1.out.ds.turn hh7 ho7 hn7) (ho7.mono fun _ h => .inr h) hn7)
          have x0 := cell_of_blk (j := 0) HQ7.out.box rfl
          have x1 := cell_of_blk (j := 1) HQ7.out.box rfl
          have f0 : w7.frozen? ⟨q1, 0, none⟩ = false := free_of_blk HQ7.out.box
          have f1 : w7.frozen? ⟨q1, 1, none⟩ = false := free_of_blk HQ7.out.box
          have HJN : Hid (Jd N s w n g p5 p6 a (.pointer (some ⟨q1, 0, none⟩)) (.bool false) ((w7.setCell ⟨q1, 0, none⟩ (.int .i64 0)).setCell ⟨q1, 1, none⟩ (.int .i64 0)) (40000 - (k + 1))) :=
            ⟨q1, (0, 0), false, xs, [], M7, rfl, rfl, HQ7.out.put (0, 0), Hd.end_ HJ.out HV.out⟩
          clear hh7 ho7 hn7 HQ1 HQ7 HJ c6
          unfold pl
          go_wp2
          go_roundw
          case rel => exact ⟨_, HJN⟩
          case measure => exact Nat.lt_of_le_of_lt (lst_le HJN.out) (Nat.lt_of_lt_of_eq (by omega) HMU.out.symm)
        · go_wp2_with fail
          refine (HK.out.pop w1 M a H trivial HQ1.out.ds.heap hH (by omega)).mono ?_
          rintro e7 w7 ⟨p7, H7, rfl, hp7, hm7, M7, hh7, ho7, hn7⟩
          have HQ7 := Lib.hid (HQ1.out.turn (HQ1.out.ds.turn hh7 ho7 hn7) (ho7.mono fun _ h => .inr h) hn7)
          have x0 := cell_of_blk (j := 0) HQ7.out.box rfl
          have x1 := cell_of_blk (j := 1) HQ7.out.box rfl
          have f0 : w7.frozen? ⟨q1, 0, none⟩ = false := free_of_blk HQ7.out.box
          have f1 : w7.frozen? ⟨q1, 1, none⟩ = false := free_of_blk HQ7.out.box
          have HJN : Hid (Jd N s w n g p5 p6 a (.pointer (some ⟨q1, 0, none⟩)) (.bool true) ((w7.setCell ⟨q1, 0, none⟩ (.int .i64 p7.1)).setCell ⟨q1, 1, none⟩ (.int .i64 p7.2)) (40000 - (k + 1))) :=
            ⟨q1, p7, true, xs, H7, M7, rfl, rfl, HQ7.out.put p7, Hd.pop HJ.out HV.out hp7 hm7⟩
          clear hp7 hm7 hh7 ho7 hn7 HQ1 HQ7 HJ c6
          unfold pl
          go_wp2
          go_roundw
          case rel => exact ⟨_, HJN⟩
          case measure => exact Nat.lt_of_le_of_lt (lst_le HJN.out) (Nat.lt_of_lt_of_eq (by omega) HMU.out.symm)
      · obtain ⟨hj2, hgx⟩ := hj.take HV.out hp hm rfl hst
        have HJ := Lib.hid hj2
        rw [hgx] at cg
        have e2 : decide (y < y) = false := decide_eq_false (by omega)
        obtain ⟨D2, hD2⟩ : ∃ D2, D2 = (fun x => if x = v then true else D x) := ⟨_, rfl⟩
        rw [← hD2] at HJ
        obtain ⟨Al, cl', hV, hrow⟩ := HRW.out.row v (by rw [HLS.out]; exact h1)
        obtain ⟨ln, hln⟩ : ∃ ln, deg N v = ln := ⟨_, rfl⟩
        rw [hln] at hV hrow
        have HRO := Lib.hid hrow
        have hlen : (pick (v : Int) N.lk).length = ln := hln
        have HLN := Lib.hid hlen
        have HVV := Lib.hid hV
        have ct : wr.cell? ⟨t, v, none⟩ = some (.slice Al ln cl') := cell_of_blk ((HQ.out.ds.bel.block t HRW.out.low).trans HRW.out.blk) (by rw [List.getElem?_toArray]; exact hV)
        have hfit := ofs_fit HV.out (v := v) (by rw [HLS.out]; exact h1)
        have hm9 := HV.out.nl
        have hl9 : ln ≤ 32768 := by omega
        have hy9 : 0 ≤ y ∧ y ≤ 34361835520 := by omega
        have HT := Lib.hid HJ.out.top
        clear htt hff hj hj2 hp hm h2 h3 h4 h5 hxl hgx hst hD2 hV hrow hln hlen hfit hm9 hH9
        go_upto_region 8 with fail
        go_quiet (fail)
        have HQd := Lib.hid (HQ.out.below (below_drewN (Below.refl _ _) nq))
        clear HQ c5 cg x0 x1 ct
        obtain ⟨wd, hwd⟩ : ∃ wd, wr.drewN nq = wd := ⟨_, rfl⟩
        rw [hwd] at HQd
        try rw [hwd]
        clear hwd
        have x0 := cell_of_blk (j := 0) HQd.out.box rfl
        have ct : wd.cell? ⟨t, v, none⟩ = some (.slice Al ln cl') := cell_of_blk ((HQd.out.ds.bel.block t HRW.out.low).trans HRW.out.blk) (by rw [List.getElem?_toArray]; exact HVV.out)
        go_wp2
        clear x0 ct
        go_loopw [11, 46] (fun _ i wr => ∃ (j : Nat) (xs : List Int) (H : List C) (M : Nat → Prop), i = .int .i64 (j : Int) ∧ j ≤ ln ∧ Hid (Dq w n g p5 p6 a xs H M q ((v : Int), y) wr) ∧ Hid (Dj N s xs H D2 y v ((pick (v : Int) N.lk).drop j) (k + 1))) (fun _ i _ => ln - (intOf i).toNat)
        case atStart => exact ⟨0, xs, H, M, rfl, Nat.zero_le _, HQd, HJ⟩
        case round =>
          clear HQd HJ HX
          obtain ⟨j, xs, H, M, rfl, hj, HQ, HJ⟩ := hrel
          by_cases hlt : j < ln
          · obtain ⟨bb, o, l, rfl, -, hl, c0, c1, c2⟩ := lk_at (HRO.out.below HQ.out.ds.bel) hlt
            obtain ⟨b, lw, rfl, hbn, hw1, hw2, -⟩ := pick_of HV.out (List.mem_of_getElem? hl)
            simp only at c0 c1 c2
            rw [HLS.out] at hbn
            have hdr : (pick (v : Int) N.lk).drop j = ((v : Int), (b : Int), (lw : Int)) :: (pick (v : Int) N.lk).drop (j + 1) := by
              rw [List.drop_eq_getElem_cons (by rw [HLN.out]; exact hlt), (List.getElem?_eq_some_iff.1 hl).2]
            rw [hdr] at HJ
            have hxl : xs.length = n := by rw [HJ.out.len]; exact HLS.out
            have hfew := (HJ.out.few HV.out).1
            have a3 : (0 : Int) ≤ (j : Int) := by omega
            have a4 : (j : Int) < (ln : Int) := by omega
            have qj : IntKind.i64.wrap ((j : Int) + 1) = (j : Int) + 1 := IntWalk.i64_in _ ⟨by omega, by omega⟩
            have qy : IntKind.i64.wrap (y + (lw : Int)) = y + (lw : Int) := IntWalk.i64_in _ ⟨by omega, by omega⟩
            clear hl hdr
            go_upto_region 12 with fail
            clear c0 c1 c2
            have HQ1 := Lib.hid (HQ.out.below ((Below.refl wr.heap.size wr).alloc (Nat.le_refl _) (.cells #[.int .i64 (v : Int), .int .i64 (b : Int), .int .i64 (lw : Int)] 45)))
            have HX1 := Lib.hid (heap_alloc_new wr (.cells #[.int .i64 (v : Int), .int .i64 (b : Int), .int .i64 (lw : Int)] 45))
            obtain ⟨qb, hqb⟩ : ∃ qb, wr.heap.size = qb := ⟨_, rfl⟩
            rw [hqb] at HX1
            try rw [hqb]
            generalize wr.alloc (.cells #[.int .i64 (v : Int), .int .i64 (b : Int), .int .i64 (lw : Int)] 45) = w1 at *
            have d1 := cell_of_blk (j := 1) HX1.out rfl
            have d2 := cell_of_blk (j := 2) HX1.out rfl
            have d3 := cell_of_blk (j := 1) HQ1.out.box rfl
            clear HQ hqb HX1
            clear wr
            by_cases hc : gx xs b = -1 ∨ y + (lw : Int) < gx xs b
            · have HJN := Lib.hid (HJ.out.less HV.out (b := b) rfl hc)
              go_wp2_with fail
              refine (reach_yes w w1 n g p5 p6 a xs H M b (y + (lw : Int)) HQ1.out.ds hbn hxl (by omega) hc).mono ?_
              rintro e2 w2 ⟨rfl, M2, hd2, ho2, hm2⟩
              have HQN := Lib.hid (HQ1.out.turn hd2 ho2 hm2)
              clear hd2 ho2 hm2 HJ HQ1 d1 d2 d3
              go_wp2
              go_roundw
              case rel => exact ⟨j + 1, _, _, M2, by go_num, by omega, HQN, HJN⟩
              case measure => simp [intOf]; omega
            · have HJN := Lib.hid (HJ.out.keep (b := b) rfl hc)
              go_wp2_with fail
              refine (reach_no w w1 n g p5 p6 a xs H M b (y + (lw : Int)) HQ1.out.ds hbn hxl hc).mono ?_
              rintro e2 w2 ⟨rfl, M2, hd2, ho2, hm2⟩
              have HQN := Lib.hid (HQ1.out.turn hd2 ho2 hm2)
              clear hd2 ho2 hm2 HJ HQ1 d1 d2 d3
              go_wp2
              go_roundw
              case rel => exact ⟨j + 1, xs, H, M2, by go_num, by omega, HQN, HJN⟩
              case measure => simp [intOf]; omega
          · obtain rfl : j = ln := by omega
            rw [List.drop_eq_nil_of_le (by rw [HLN.out]; exact Nat.le_refl _)] at HJ
            go_upto_region 14 with fail
            have x0 := cell_of_blk (j := 0) HQ.out.box rfl
            have x1 := cell_of_blk (j := 1) HQ.out.box rfl
            have hb1 := (Below.refl wr.heap.size wr).alloc (Nat.le_refl _) (.cells #[.int .i64 (v : Int), .int .i64 y] 62)
            have hsz := HQ.out.ds.lt
            have hbz := HQ.out.ds.bel.size
            have HQ1 : Hid (Dq w n g p5 p6 a xs H M wr.heap.size ((v : Int), y) (wr.alloc (.cells #[.int .i64 (v : Int), .int .i64 y] 62))) :=
              ⟨HQ.out.ds.below hb1, heap_alloc_new wr _, fun h => by have := (HQ.out.ds.heap.lies _ h).2; omega, hbz, by omega, by omega, by omega⟩
            clear hb1
            go_upto_region 7 with fail
            clear x0 x1 HQ
            obtain ⟨q1, hq1⟩ : ∃ q1, wr.heap.size = q1 := ⟨_, rfl⟩
            rw [hq1] at HQ1
            try rw [hq1]
            generalize wr.alloc (.cells #[.int .i64 (v : Int), .int .i64 y] 62) = w1 at *
            clear hsz hbz hq1
            have c6 := cell_of_blk (j := 0) HQ1.out.ds.end_ rfl
            have hfew := (HJ.out.few HV.out).1
            have hkf := (HJ.out.few HV.out).2
            by_cases hH : H = []
            · subst hH
              go_wp2_with fail
              refine (HK.out.pop0 w1 M a trivial HQ1.out.ds.heap).mono ?_
              rintro e7 w7 ⟨rfl, M7, hh7, ho7, hn7⟩
              have HQ7 := Lib.hid (HQ1.out.turn (HQ1.out.ds.turn hh7 ho7 hn7) (ho7.mono fun _ h => .inr h) hn7)
              have x0 := cell_of_blk (j := 0) HQ7.out.box rfl
              have x1 := cell_of_blk (j := 1) HQ7.out.box rfl
              have f0 : w7.frozen? ⟨q1, 0, none⟩ = false := free_of_blk HQ7.out.box
              have f1 : w7.frozen? ⟨q1, 1, none⟩ = false := free_of_blk HQ7.out.box
              have HJN : Hid (Jd N s w n g p5 p6 a (.pointer (some ⟨q1, 0, none⟩)) (.bool false) ((w7.setCell ⟨q1, 0, none⟩ (.int .i64 0)).setCell ⟨q1, 1, none⟩ (.int .i64 0)) (40000 - (k + 1))) :=
                ⟨q1, (0, 0), false, xs, [], M7, rfl, rfl, HQ7.out.put (0, 0), Hd.end_ HJ.out HV.out⟩
              clear hh7 ho7 hn7 HQ1 HQ7 HJ c6
              unfold pl
              go_wp2
              go_roundw
              case rel => exact ⟨_, HJN⟩
              case measure => exact Nat.lt_of_le_of_lt (lst_le HJN.out) (Nat.lt_of_lt_of_eq (by omega) HMU.out.symm)
            · go_wp2_with fail
              refine (HK.out.pop w1 M a H trivial HQ1.out.ds.heap hH (by omega)).mono ?_
              rintro e7 w7 ⟨p7, H7, rfl, hp7, hm7, M7, hh7, ho7, hn7⟩
              have HQ7 := Lib.hid (HQ1.out.turn (HQ1.out.ds.turn hh7 ho7 hn7) (ho7.mono fun _ h => .inr h) hn7)
              have x0 := cell_of_blk (j := 0) HQ7.out.box rfl
              have x1 := cell_of_blk (j := 1) HQ7.out.box rfl
              have f0 : w7.frozen? ⟨q1, 0, none⟩ = false := free_of_blk HQ7.out.box
              have f1 : w7.frozen? ⟨q1, 1, none⟩ = false := free_of_blk HQ7.out.box
              have HJN : Hid (Jd N s w n g p5 p6 a (.pointer (some ⟨q1, 0, none⟩)) (.bool true) ((w7.setCell ⟨q1, 0, none⟩ (.int .i64 p7.1)).setCell ⟨q1, 1, none⟩ (.int .i64 p7.2)) (40000 - (k + 1))) :=
                ⟨q1, p7, true, xs, H7, M7, rfl, rfl, HQ7.out.put p7, Hd.pop HJ.out HV.out hp7 hm7⟩
              clear hp7 hm7 hh7 ho7 hn7 HQ1 HQ7 HJ c6
              unfold pl
              go_wp2
              go_roundw
              case rel => exact ⟨_, HJN⟩
              case measure => exact Nat.lt_of_le_of_lt (lst_le HJN.out) (Nat.lt_of_lt_of_eq (by omega) HMU.out.symm)
end Go.Proofs.Ytdhlbcbgbmgcjaa.Pt
