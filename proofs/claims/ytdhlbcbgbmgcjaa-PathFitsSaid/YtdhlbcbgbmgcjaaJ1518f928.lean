/- Lemmas that the proof stands on, in build order: PtV GfLf. -/
import Derived.Test.YtdhlbcbgbmgcjaaJ11d43469
import Derived.Test.YtdhlbcbgbmgcjaaJ1318f5f6
import Derived.Test.YtdhlbcbgbmgcjaaJ14cbd153
import Derived.Test.YtdhlbcbgbmgcjaaJ87d8111
/- Layer 17 (path): the reference's Way, as a contract. -/
namespace Go.Proofs.Ytdhlbcbgbmgcjaa.Pt
open Go.RowKit Rec Ints Ge Gf Pa

theorem len_ofP {L : List Nat} {n : Nat} (h : L.Nodup) (hb : ∀ i ∈ L, i < n) : L.length ≤ n := by
  have hp : L.Perm ((List.range n).filter fun i => decide (i ∈ L)) := (List.perm_ext_iff_of_nodup h (List.nodup_range.filter _)).2 fun i => by
    simp only [List.mem_filter, List.mem_range, decide_eq_true_eq]
    exact ⟨fun hi => ⟨hb i hi, hi⟩, fun hi => hi.2⟩
  rw [hp.length_eq]
  have := List.length_filter_le (fun i => decide (i ∈ L)) (List.range n)
  rwa [List.length_range] at this
/-- What is found of the way, from v on: whatever leads to v is continued by it. -/
structure Wp (N : Nt) (d : D) (s t v : Nat) (R : List Nat) : Prop where
  on : ∀ l, Bw N d s v l → Bw N d s t (l ++ R)
  far : (v :: R).Pairwise (fun a b => fz (d a) < fz (d b))
  lt : ∀ i ∈ v :: R, i < N.st.length
  fin : 0 ≤ fz (d v)
theorem Wp.len {N : Nt} {d : D} {s t v : Nat} {R : List Nat} (h : Wp N d s t v R) : (v :: R).length ≤ N.st.length := len_ofP (h.far.imp fun h e => by subst e; omega) h.lt
theorem wp_start {N : Nt} {d : D} {s t : Nat} (ht : t < N.st.length) (h0 : 0 ≤ fz (d t)) : Wp N d s t t [] := ⟨fun l h => by rw [List.append_nil]; exact h, List.pairwise_singleton _ _, fun i hi => by rw [List.mem_singleton.1 hi]; exact ht, h0⟩
theorem wp_step {N : Nt} {d : D} {s t v u : Nat} {R : List Nat} (h : Wp N d s t v R) (hne : v ≠ s) (hn : Nxt N d v u) : Wp N d s t u (v :: R) := by
  have h1 := hn.2.1
  refine ⟨fun l hl => ?_, ?_, fun i hi => ?_, h1.2.1⟩
  · have h2 := h.on _ (.step hne hn hl)
    rw [List.append_assoc] at h2
    exact h2
  · refine List.pairwise_cons.2 ⟨fun b hb => ?_, h.far⟩
    have h3 : fz (d u) < fz (d v) := by have := h1.1; have := h1.2.2; omega
    rcases List.mem_cons.1 hb with rfl | hb
    · exact h3
    · have := (List.pairwise_cons.1 h.far).1 b hb
      omega
  · rcases List.mem_cons.1 hi with rfl | hi
    · exact hn.1
    · exact h.lt i hi
/-- What is found of the stop before one. -/
def Nx (N : Nt) (d : D) (v k : Nat) (x : Int) : Prop := (x = -1 ∧ ∀ i, i < k → ¬ Fits N d v i) ∨ ∃ u : Nat, x = (u : Int) ∧ u < N.st.length ∧ Fits N d v u ∧ ∀ i, i < u → ¬ Fits N d v i
theorem nx_no {N : Nt} {d : D} {v k : Nat} {x : Int} (h : Nx N d v k x) (hf : x < 0 → ¬ Fits N d v k) : Nx N d v (k + 1) x := by
  rcases h with ⟨h1, h2⟩ | h
  · refine .inl ⟨h1, fun i hi => ?_⟩
    rcases Nat.lt_or_ge i k with h3 | h3
    · exact h2 i h3
    · have : i = k := by omega
      subst this
      exact hf (by omega)
  · exact .inr h
theorem nx_yes {N : Nt} {d : D} {v k : Nat} {x : Int} (h : Nx N d v k x) (hx : x < 0) (hk : k < N.st.length) (hf : Fits N d v k) : Nx N d v (k + 1) (k : Int) := by
  rcases h with ⟨_, h2⟩ | ⟨u, h1, _⟩
  · exact .inr ⟨k, rfl, hk, hf, h2⟩
  · omega
theorem nx_end {N : Nt} {d : D} {v : Nat} {x : Int} (h : Nx N d v N.st.length x) (hex : ∃ u, Nxt N d v u) : ∃ u : Nat, x = (u : Int) ∧ Nxt N d v u := by
  rcases h with ⟨_, h2⟩ | ⟨u, h1, h2, h3, h4⟩
  · obtain ⟨u, h3⟩ := hex
    exact absurd h3.2.1 (h2 u h3.1)
  · exact ⟨u, h1, h2, h3, h4⟩
theorem InTo.up {B : Nat} {w0 w1 w2 : World} {l : List Int} {v : Value} (h : InTo B w0 l v w1) (hb : Below w1.heap.size w1 w2) (hB : B ≤ w1.heap.size) : InTo B w0 l v w2 := by
  obtain ⟨A, n, c, e1, e2, e3, e4, e5, e6⟩ := h
  exact ⟨A, n, c, e1, (e2.below hb).more hb.size, e3, e4, e5, e6.trans (hb.mono hB)⟩
theorem own_one (w : World) (x : Int) : (w.alloc (.cells #[.int .i64 x] 3)).ownsRow w.heap.size 3 1 (.slice (some ⟨w.heap.size, 0, none⟩) 1 1) 1 (intS.flat [x]) :=
  ⟨rfl, .inr ⟨w.heap.size, 1, _, rfl, Nat.le_refl _, heap_alloc_new _ _, Nat.le_refl _, by unfold maxLen; omega, rfl, rfl⟩⟩

/-- How far it is still to go. -/
noncomputable def wlen (N : Nt) (s : Nat) (v : Value) (w : World) : Nat :=
  match v with
  | .slice (some a) _ _ => match w.cell? a with
    | some (.int _ x) => (fz (dis N s x.toNat)).toNat
    | _ => 0
  | _ => 0
theorem wlen_of {N : Nt} {s v n c b o : Nat} {w : World} (h : w.cell? ⟨b, o, none⟩ = some (.int .i64 (v : Int))) : wlen N s (.slice (some ⟨b, o, none⟩) n c) w = (fz (dis N s v)).toNat := by
  unfold wlen
  simp only [h, Int.toNat_natCast]

set_option maxHeartbeats 8000000 in
set_option maxRecDepth 100000 in
theorem refway_any (N : Nt) (A A' : Option Addr) (n c m c' s t : Nat) (w : World) (h : NAt w w.heap.size N A n c A' m c') (hc : check N = 0) (hs : s < n) (ht : t < n) (hd : 0 ≤ fz (dis N s t)) (hdb : ∀ v, fz (dis N s v) ≤ 4611686018427387904) :
    Calls Try.prog 15 #[.agg #[.int .i64 N.ver, .slice A n c, .slice A' m c'], .int .i64 (s : Int), .int .i64 (t : Int)] w fun e w' => ∃ v L, e = .returned v ∧ InTo w.heap.size w (nums L) v w' ∧ Bw N (dis N s) s t L := by
  obtain ⟨ii, hii, hiz0, hiz1, hiz2⟩ := info_of info_int
  have hv := valid_of hc
  have HV := Lib.hid hv
  have HC := Lib.hid hc
  have HB := Lib.hid (Bx.start h)
  have hls : N.st.length = n := h.st.len
  have hll : N.lk.length = m := h.lk.len
  have hm9 : m ≤ 1073741824 := by have := hv.nl; omega
  have hn9 : n ≤ 4096 := by have := hv.ns; omega
  have HLS := Lib.hid hls
  have HDB := Lib.hid hdb
  have hgw : w.heap.size < (w.alloc (.cells #[.int .i64 N.ver, .slice A n c, .slice A' m c'] 25)).heap.size := by simp
  have HW0 : Hid (Wp N (dis N s) s t t []) := wp_start (by omega) hd
  obtain ⟨d, hdd⟩ : ∃ d, dis N s = d := ⟨_, rfl⟩
  have HD := Lib.hid hdd
  clear h hc hv hls hll hd hdb hdd
  go_enter Try.func15, Try.ntmps15
  go_wp2_with fail
  generalize w.alloc (.cells #[.int .i64 N.ver, .slice A n c, .slice A' m c'] 25) = wA at *
  refine (reffrom_any N A A' n c m c' s wA ((HB.out.at_).more HB.out.bel.size) HC.out hs).mono ?_
  rintro e1 w1 ⟨v1, rfl, A1, n1, c1, rfl, hr1, -, -, -, hb1⟩
  have hl1 : n1 = n := by have h1 := hr1.len; rw [far_len, HLS.out] at h1; exact h1.symm
  subst hl1
  have HB1 := Lib.hid (HB.out.below hb1)
  have HF1 := Lib.hid hr1
  have hg1 : w.heap.size ≤ w1.heap.size := HB1.out.bel.size
  have hIN : InTo w.heap.size w (nums [t]) (.slice (some ⟨w1.heap.size, 0, none⟩) 1 1) (w1.alloc (.cells #[.int .i64 (t : Int)] 3)) :=
    (InTo.of_own (own_one w1 (t : Int)) ((Below.refl _ _).alloc (Nat.le_refl _) _)).rebase (HB1.out.bel.trans (((Below.refl w1.heap.size w1).alloc (Nat.le_refl _) _).mono hg1))
  have HIN := Lib.hid hIN
  have HB2 := Lib.hid (HB1.out.below ((Below.refl w1.heap.size w1).alloc (Nat.le_refl _) (.cells #[.int .i64 (t : Int)] 3)))
  have HF2 : Hid (RRow intS (w1.alloc (.cells #[.int .i64 (t : Int)] 3)) (w1.alloc (.cells #[.int .i64 (t : Int)] 3)).heap.size A1 n1 (farL N s)) := (HF1.out.below ((Below.refl w1.heap.size w1).alloc (Nat.le_refl _) _)).more (by simp)
  clear hr1 hb1 hIN HB HB1 HF1 hgw hg1
  go_wp2
  go_loopw [8] (fun vo wr => ∃ (v : Nat) (R : List Nat), Hid (Wp N (dis N s) s t v R) ∧ Hid (InTo w.heap.size w (nums (v :: R)) vo wr) ∧ Hid (RRow intS wr wr.heap.size A1 n1 (farL N s)) ∧ Hid (Bx w N A n1 c A' m c' wr))
    (fun vo wr => wlen N s vo wr)
  case atStart => exact ⟨t, [], HW0, HIN, HF2, HB2⟩
  case round =>
    clear HW0 HIN HF2 HB2
    obtain ⟨v, R, HWP, HIN, HF, HB⟩ := hrel
    obtain ⟨A2, n2, c2, rfl, hr2, hnil2, hnc2, hcm2, hb2⟩ := HIN.out
    have hn2 : n2 = (v :: R).length := by have h1 := hr2.len; rw [nums_len] at h1; exact h1.symm
    have hn2p : 0 < n2 := by rw [hn2]; exact Nat.succ_pos _
    have hn24 : n2 ≤ 4096 := by have h1 := HWP.out.len; rw [HLS.out] at h1; omega
    obtain ⟨b2, o2, z2, rfl, hbb2, hz2, hcz⟩ := int_at hr2 hn2p
    obtain rfl : z2 = (v : Int) := by have h1 : (nums (v :: R))[0]? = some (v : Int) := rfl; rw [h1] at hz2; exact (Option.some.inj hz2).symm
    have q0 : wr.cell? ⟨b2, o2, none⟩ = some (.int .i64 (v : Int)) := hcz
    have HR2 := Lib.hid hr2
    have HN2 := Lib.hid hn2
    have HWL := Lib.hid (wlen_of (N := N) (s := s) (n := n2) (c := c2) q0)
    have p0 : (0 : Int) < (n2 : Int) := by omega
    clear hcz hz2 hr2 hn2 hb2
    by_cases hvs : v = s
    · subst hvs
      have e0 : ((v : Int) == (v : Int)) = true := by simp
      have HBW := Lib.hid (HWP.out.on _ .nil)
      go_wp2
      go_ret
      exact ⟨_, _, rfl, HIN.out, HBW.out⟩
    · have e0 : ((v : Int) == (s : Int)) = false := beq_eq_false_iff_ne.2 (by omega)
      have hvn : v < n1 := by have h1 := HWP.out.lt v List.mem_cons_self; rw [HLS.out] at h1; exact h1
      obtain ⟨bf, of, zf, rfl, hbf, hzf, hcf⟩ := int_at HF.out hvn
      have hzv : zf = fz (dis N s v) := by rw [far_at (by rw [HLS.out]; exact hvn)] at hzf; exact (Option.some.inj hzf).symm
      have HEX : Hid (∃ u, Nxt N (dis N s) v u) := nxt_ex HV.out hvs HWP.out.fin
      have HFV := Lib.hid hzv.symm
      have hdv := HDB.out v
      have HB0 : Hid (Below wr.heap.size wr wr) := Below.refl _ _
      have HNX0 : Hid (Nx N (dis N s) v 0 (-1)) := .inl ⟨rfl, fun i hi => absurd hi (by omega)⟩
      rw [← hzv] at hdv
      clear hzf hzv
      have hfin := HWP.out.fin
      rw [HFV.out] at hfin
      go_wp2
      obtain ⟨wo, rfl⟩ : ∃ x, x = wr := ⟨_, rfl⟩
      go_loopw [9, 10] (fun nx i wx => ∃ (k : Nat) (x : Int), k ≤ n1 ∧ i = .int .i64 (k : Int) ∧ nx = .int .i64 x ∧ Hid (Nx N (dis N s) v k x) ∧ Hid (Below wo.heap.size wo wx)) (fun _ i _ => n1 - (intOf i).toNat)
      case atStart => exact ⟨0, -1, Nat.zero_le _, rfl, rfl, HNX0, HB0⟩
      case round =>
        clear HNX0 HB0
        obtain ⟨k, x, hk, rfl, rfl, HNX, HBX⟩ := hrel
        have hbl := HB.out.lt
        have z1 : wr.cell? ⟨w.heap.size, 1, none⟩ = some (.slice A n1 c) := cell_of_blk ((HBX.out.block _ hbl).trans HB.out.blk) rfl
        by_cases hkn : k < n1
        · have e1 : decide ((k : Int) < (n1 : Int)) = true := decide_eq_true (by omega)
          have hwk : IntKind.i64.wrap ((k : Int) + 1) = (k : Int) + 1 := IntWalk.i64_in _ ⟨by omega, by omega⟩
          obtain ⟨bk, ok, fk, hAk, hbk, hzk, hck⟩ := int_at HF.out hkn
          simp only [Option.some.injEq, Addr.mk.injEq] at hAk
          rw [← hAk.1, ← hAk.2.1] at hck
          have hfk : fz (dis N s k) = fk := by rw [far_at (by rw [HLS.out]; exact hkn)] at hzk; exact Option.some.inj hzk
          have HFK := Lib.hid hfk
          have hdk := HDB.out k
          rw [hfk] at hdk
          have hfk1 : -1 ≤ fk := by
            rw [← hfk]
            cases dis N s k with
            | none => exact Int.le_refl _
            | some m => show (-1 : Int) ≤ (m : Int); omega
          clear hAk hzk hfk hbk bk ok
          obtain ⟨wv, hwv⟩ : ∃ wv, wt N.lk (v : Int) (k : Int) = wv := ⟨_, rfl⟩
          have HWV := Lib.hid hwv
          have hwb : wv = 0 ∨ (1 ≤ wv ∧ wv < 1048576) := by
            by_cases h0 : wv = 0
            · exact .inl h0
            · have h9 := wt_in HV.out (a := (v : Int)) (b := (k : Int)) (by rw [hwv]; exact h0)
              rw [hwv] at h9
              exact .inr ⟨h9.2.2.2.2.1, h9.2.2.2.2.2⟩
          have HRW := Lib.hid (refweight_any N A A' n1 c m c' (v : Int) (k : Int))
          rw [hwv] at HRW
          clear hwv
          go_upto_region 8 with fail
          obtain ⟨ι, hne, F, i0, h0, hF, hC⟩ := fam_of wr
          have hFo : ∀ i, Below wo.heap.size wo (F i) := fun i => HBX.out.trans ((hF i).mono HBX.out.size)
          have y0 : ∀ i, (F i).cell? ⟨w.heap.size, 0, none⟩ = some (.int .i64 N.ver) := fun i => cell_of_blk (((hFo i).block _ hbl).trans HB.out.blk) rfl
          have y1 : ∀ i, (F i).cell? ⟨w.heap.size, 1, none⟩ = some (.slice A n1 c) := fun i => cell_of_blk (((hFo i).block _ hbl).trans HB.out.blk) rfl
          have y2 : ∀ i, (F i).cell? ⟨w.heap.size, 2, none⟩ = some (.slice A' m c') := fun i => cell_of_blk (((hFo i).block _ hbl).trans HB.out.blk) rfl
          have y3 : ∀ i, (F i).cell? ⟨b2, o2, none⟩ = some (.int .i64 (v : Int)) := fun i => ((hFo i).cell hbb2).trans q0
          have HBF : ∀ i, Hid (Bx w N A n1 c A' m c' (F i)) := fun i => HB.out.below (hFo i)
          have HFO : ∀ i, Hid (Below wo.heap.size wo (F i)) := hFo
          clear hFo z1
          refine Mix.wp_region_lex (fun w' => ∃ i, w' = F i) (by kernel_rfl) (by kernel_rfl) ⟨i0, h0⟩ ?_
          rw [h0]
          clear h0 HBX
          repeat (first | (refine Mix.lex_step rfl ?_; intro K hK; go_big_quiet_step (fail); refine Mix.lex_on hK ?_; clear hK K) | (refine Mix.lex_skip rfl ?_; simp only [Act.put, List.setIfInBounds_toArray, List.set_cons_zero, List.set_cons_succ]))
          refine Mix.lex_call (HRW.out (F i0) (((HBF i0).out.at_).more (HBF i0).out.bel.size) hm9) rfl rfl rfl (fun _ => rfl) ?_
          rintro e3 w3 ⟨rfl, hb3⟩
          obtain ⟨j3, rfl⟩ := hC _ w3 hb3
          clear hb3
          refine ⟨_, rfl, ⟨j3, rfl⟩, ?_⟩
          simp only [Act.put, List.setIfInBounds_toArray, List.set_cons_zero, List.set_cons_succ]
          repeat (first | (refine Mix.lex_step rfl ?_; intro K hK; go_big_quiet_step (fail); refine Mix.lex_on hK ?_; clear hK K) | (refine Mix.lex_skip rfl ?_; simp only [Act.put, List.setIfInBounds_toArray, List.set_cons_zero, List.set_cons_succ]))
          refine Mix.lex_nil ?_
          have HB9 := HFO j3
          have y3' := y3 j3
          clear y0 y1 y2 y3 HBF HFO
          generalize F j3 = w9 at *
          go_upto_region 9 with fail
          have hfkc : w9.cell? ⟨bf, of + k, none⟩ = some (.int .i64 fk) := (HB9.out.cell hbf).trans hck
          have hfvc : w9.cell? ⟨bf, of + v, none⟩ = some (.int .i64 zf) := (HB9.out.cell hbf).trans hcf
          have g1 : (0 : Int) ≤ (k : Int) := by omega
          have g2 : (k : Int) < (n1 : Int) := by omega
          have g3 : (0 : Int) ≤ (v : Int) := by omega
          have g4 : (v : Int) < (n1 : Int) := by omega
          by_cases hx0 : x < 0
          · have d1 : decide (x < 0) = true := decide_eq_true hx0
            by_cases hw0 : 0 < wv
            · have d2 : decide (0 < wv) = true := decide_eq_true hw0
              have hm1 : IntKind.i64.wrap (fk + wv) = fk + wv := IntWalk.i64_in _ (by constructor <;> omega)
              by_cases hf0 : 0 ≤ fk
              · have d3 : decide (0 ≤ fk) = true := decide_eq_true hf0
                by_cases hee : fk + wv = zf
                · have d4 : (fk + wv == zf) = true := beq_iff_eq.2 hee
                  have HNN : Hid (Nx N (dis N s) v (k + 1) (k : Int)) := nx_yes HNX.out hx0 (by rw [HLS.out]; exact hkn) ⟨by rw [HWV.out]; omega, by rw [HFK.out]; omega, by rw [HFK.out, HFV.out, HWV.out]; omega⟩
                  clear HNX
                  go_quiet (fail)
                  have HBN : Hid (Below wo.heap.size wo (w9.drewN nq)) := below_drewN HB9.out nq
                  generalize w9.drewN nq = w10 at *
                  go_wp2
                  go_roundw
                  case rel => exact ⟨k + 1, _, by omega, by go_num, rfl, HNN, HBN⟩
                  case measure => simp [intOf]; omega
                · have d4 : (fk + wv == zf) = false := beq_eq_false_iff_ne.2 hee
                  have HNN : Hid (Nx N (dis N s) v (k + 1) x) := nx_no HNX.out (fun _ h => hee (by have h3 := h.2.2; rw [HFK.out, HFV.out, HWV.out] at h3; omega))
                  clear HNX
                  go_quiet (fail)
                  have HBN : Hid (Below wo.heap.size wo (w9.drewN nq)) := below_drewN HB9.out nq
                  generalize w9.drewN nq = w10 at *
                  go_wp2
                  go_roundw
                  case rel => exact ⟨k + 1, _, by omega, by go_num, rfl, HNN, HBN⟩
                  case measure => simp [intOf]; omega
              · have d3 : decide (0 ≤ fk) = false := decide_eq_false hf0
                have HNN : Hid (Nx N (dis N s) v (k + 1) x) := nx_no HNX.out (fun _ h => hf0 (by have h3 := h.2.1; rw [HFK.out] at h3; omega))
                clear HNX
                go_quiet (fail)
                have HBN : Hid (Below wo.heap.size wo (w9.drewN nq)) := below_drewN HB9.out nq
                generalize w9.drewN nq = w10 at *
                go_wp2
                go_roundw
                case rel => exact ⟨k + 1, _, by omega, by go_num, rfl, HNN, HBN⟩
                case measure => simp [intOf]; omega
            · have d2 : decide (0 < wv) = false := decide_eq_false hw0
              have HNN : Hid (Nx N (dis N s) v (k + 1) x) := nx_no HNX.out (fun _ h => hw0 (by have h3 := h.1; rw [HWV.out] at h3; omega))
              clear HNX
              go_quiet (fail)
              have HBN : Hid (Below wo.heap.size wo (w9.drewN nq)) := below_drewN HB9.out nq
              generalize w9.drewN nq = w10 at *
              go_wp2
              go_roundw
              case rel => exact ⟨k + 1, _, by omega, by go_num, rfl, HNN, HBN⟩
              case measure => simp [intOf]; omega
          · have d1 : decide (x < 0) = false := decide_eq_false hx0
            have HNN : Hid (Nx N (dis N s) v (k + 1) x) := nx_no HNX.out (fun h _ => hx0 h)
            clear HNX
            go_quiet (fail)
            have HBN : Hid (Below wo.heap.size wo (w9.drewN nq)) := below_drewN HB9.out nq
            generalize w9.drewN nq = w10 at *
            go_wp2
            go_roundw
            case rel => exact ⟨k + 1, _, by omega, by go_num, rfl, HNN, HBN⟩
            case measure => simp [intOf]; omega
        · obtain rfl : k = n1 := by omega
          have e1 : decide ((k : Int) < (k : Int)) = false := decide_eq_false (by omega)
          obtain ⟨u, rfl, hnx⟩ := nx_end (by rw [HLS.out]; exact HNX.out) HEX.out
          have HWP2 := Lib.hid (wp_step HWP.out hvs hnx)
          have e2 : decide ((u : Int) < 0) = false := decide_eq_false (by omega)
          have hba := (Below.refl wr.heap.size wr).alloc (Nat.le_refl _) (.cells #[.int .i64 (u : Int)] 3)
          have HOWN := Lib.hid (own_one wr (u : Int))
          have HSRC : Hid (RRow intS (wr.alloc (.cells #[.int .i64 (u : Int)] 3)) wo.heap.size (some ⟨b2, o2, none⟩) n2 (nums (v :: R))) := (HR2.out.below HBX.out).below (hba.mono HBX.out.size)
          have HBA := Lib.hid (HBX.out.trans (hba.mono HBX.out.size))
          have HGS : Hid (wo.heap.size ≤ wr.heap.size) := HBX.out.size
          clear hba HNX
          go_wp2_with (at_builtin; go_loud (refine cat_rec intS rfl (.tmp 67) (.tmp 68) 27 rfl wr.heap.size 3 ii (.int .i64 0) 8 Try.underlying27 hii hiz0 rfl hiz1 hiz2 _ 1 [(u : Int)] rfl HOWN.out wo.heap.size (some ⟨b2, o2, none⟩) n2 c2 (nums (v :: R)) rfl hnil2 HSRC.out (by omega) (by omega) (by simp) ?_); intro v4 w4 hown4 _ hb4; obtain ⟨A4, c4, rfl, -⟩ := ownr_slice hown4; have HO4 := Lib.hid hown4; have HB4 := Lib.hid hb4; clear hown4 hb4)
          have hbw := HBA.out.trans (HB4.out.mono HGS.out)
          have hwo : w.heap.size ≤ wo.heap.size := HB.out.bel.size
          have hrow := RRow.of_own (S := intS) HO4.out
          obtain ⟨b4, o4, z4, hA4, _, hz4, hc4⟩ := int_at hrow (by omega : 0 < 1 + n2)
          obtain rfl : z4 = (u : Int) := by have h1 : ([(u : Int)] ++ nums (v :: R))[0]? = some (u : Int) := rfl; rw [h1] at hz4; exact (Option.some.inj hz4).symm
          have hc4' : w4.cell? ⟨b4, o4, none⟩ = some (.int .i64 (u : Int)) := hc4
          have hft := hnx.2.1
          refine ⟨⟨u, v :: R, HWP2, (InTo.of_own HO4.out HB4.out).rebase (HB.out.bel.trans (hbw.mono hwo)), (HF.out.below hbw).more hbw.size, HB.out.below hbw⟩, ?_⟩
          subst hA4
          rw [wlen_of hc4', HWL.out]
          have h1 := hft.1
          have h2 := hft.2.1
          have h3 := hft.2.2
          omega
end Go.Proofs.Ytdhlbcbgbmgcjaa.Pt

/- Layer 15 (graph): the law's Few, as a contract. -/
namespace Go.Proofs.Ytdhlbcbgbmgcjaa.Gf
open Go.RowKit Rec Ints Ge

theorem few_any (N : Nt) (A A' : Option Addr) (n c m c' : Nat) (w : World) (h : NAt w w.heap.size N A n c A' m c') :
    Calls Try.prog 7 #[.agg #[.int .i64 N.ver, .slice A n c, .slice A' m c']] w fun e w' => e = .returned (.bool (decide (n ≤ 60) && decide (m ≤ 120))) ∧ Below w.heap.size w w' := by
  have HB := Lib.hid (Bx.start h)
  clear h
  by_cases h1 : n ≤ 60
  · have d1 : decide ((n : Int) ≤ 60) = true := decide_eq_true (by omega)
    have d1' : decide (n ≤ 60) = true := decide_eq_true h1
    by_cases h2 : m ≤ 120
    · have d2 : decide ((m : Int) ≤ 120) = true := decide_eq_true (by omega)
      have d2' : decide (m ≤ 120) = true := decide_eq_true h2
      rw [d1', d2']
      go_enter Try.func7, Try.ntmps7
      go_wp2
      go_ret
      exact ⟨rfl, HB.out.bel⟩
    · have d2 : decide ((m : Int) ≤ 120) = false := decide_eq_false (by omega)
      have d2' : decide (m ≤ 120) = false := decide_eq_false h2
      rw [d1', d2']
      go_enter Try.func7, Try.ntmps7
      go_wp2
      go_ret
      exact ⟨rfl, HB.out.bel⟩
  · have d1 : decide ((n : Int) ≤ 60) = false := decide_eq_false (by omega)
    have d1' : decide (n ≤ 60) = false := decide_eq_false h1
    rw [d1']
    go_enter Try.func7, Try.ntmps7
    go_wp2
    go_ret
    exact ⟨rfl, HB.out.bel⟩
end Go.Proofs.Ytdhlbcbgbmgcjaa.Gf
