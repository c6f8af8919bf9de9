/- Lemmas that the proof stands on, in build order: ChK. -/
import Derived.BigQuiet
import Derived.Deep.QuietTactic
import Derived.StillTailTactics
import Derived.Deep.RegionHeld3
import Derived.RegionTactic
import Derived.Deep.DeepCutAuto
import Derived.Test.YtppbpmmfcoblmaaDoorJ179ddfcd
import Derived.Test.YtppbpmmfcoblmaaDoorJ40a207d5
import Derived.Test.YtppbpmmfcoblmaaDoorJ411788c9
import Derived.Test.YtppbpmmfcoblmaaDoorJ42e1d50b
/- Layer 11 (challenge): the walk of the law on there and back: its beginning. -/
namespace Go.Proofs.YtppbpmmfcoblmaaDoor.Chl
open Go.RowKit Slc Var Fld Frm Sha Hmc Rg Tok

/-- Behind the law's boxes: the token's block, the questions', the numbers'. -/
structure Gx (w0 : World) (ct cl cn : Array Value) (w' : World) : Prop where
  tok : w'.heap[w0.heap.size]? = some (.cells ct 41 (0, 0))
  lst : w'.heap[w0.heap.size + 1]? = some (.cells cl 47 (0, 0))
  nums : w'.heap[w0.heap.size + 1 + 1]? = some (.cells cn 49 (0, 0))
  bel : Below w0.heap.size w0 w'
section
variable {w0 w1 w2 : World} {ct cl cn : Array Value}
theorem Gx.lt (h : Gx w0 ct cl cn w1) : w0.heap.size + 1 + 1 < w1.heap.size := (Array.getElem?_eq_some_iff.1 h.nums).1
theorem Gx.below (h : Gx w0 ct cl cn w1) (hb : Below w1.heap.size w1 w2) : Gx w0 ct cl cn w2 :=
  have hl := h.lt
  ⟨(hb.block _ (by omega)).trans h.tok, (hb.block _ (by omega)).trans h.lst, (hb.block _ hl).trans h.nums, h.bel.trans (hb.mono h.bel.size)⟩
theorem Gx.new : Gx w0 ct cl cn (((w0.alloc (.cells ct 41)).alloc (.cells cl 47)).alloc (.cells cn 49)) := by
  have s1 : (w0.alloc (.cells ct 41)).heap.size = w0.heap.size + 1 := by simp
  have s2 : ((w0.alloc (.cells ct 41)).alloc (.cells cl 47)).heap.size = w0.heap.size + 1 + 1 := by simp
  have h1 : (w0.alloc (.cells ct 41)).heap[w0.heap.size]? = some (.cells ct 41 (0, 0)) := heap_alloc_new w0 _
  have b1 : Below w0.heap.size w0 (w0.alloc (.cells ct 41)) := below_new
  generalize w0.alloc (.cells ct 41) = y1 at *
  have h2 : (y1.alloc (.cells cl 47)).heap[y1.heap.size]? = some (.cells cl 47 (0, 0)) := heap_alloc_new y1 _
  have b2 : Below y1.heap.size y1 (y1.alloc (.cells cl 47)) := below_new
  generalize y1.alloc (.cells cl 47) = y2 at *
  have h3 : (y2.alloc (.cells cn 49)).heap[y2.heap.size]? = some (.cells cn 49 (0, 0)) := heap_alloc_new y2 _
  have b3 : Below y2.heap.size y2 (y2.alloc (.cells cn 49)) := below_new
  generalize y2.alloc (.cells cn 49) = y3 at *
  rw [s1] at h2
  rw [s2] at h3
  exact ⟨(b3.block _ (by omega)).trans ((b2.block _ (by omega)).trans h1), (b3.block _ (by omega)).trans h2, h3, b1.trans ((b2.mono (by omega)).trans (b3.mono (by omega)))⟩
end

/-- While the questions are put together: gr the ring's block, if it is made by now. -/
structure Mid (w0 : World) (ct cl cn : Array Value) (y W : World) (gr : Option Nat) (v : Value) (k : Nat) (xs : List Int) : Prop where
  gx : Gx w0 ct cl cn W
  own : W.ownsRow y.heap.size 5 1 v k (xs.map (Value.int .u8))
  rb : ∀ G, gr = some G → W.heap[G]? = some (.cells #[.int .i64 0, .slice none 0 0] 24 (0, 0)) ∧ w0.heap.size + 1 + 1 < G ∧ v.ownBlock ≠ some G
  low : y.heap.size ≤ W.heap.size
  bel : Below y.heap.size y W
  gy : Gx w0 ct cl cn y
section
variable {w0 y W W' : World} {ct cl cn : Array Value} {gr : Option Nat} {v v' : Value} {k m : Nat} {xs ys : List Int}
theorem Mid.app (h : Mid w0 ct cl cn y W gr v k xs) (hown : W'.ownsRow y.heap.size 5 1 v' (k + m) ((xs ++ ys).map (Value.int .u8))) (hg : W.grownBy W' v.ownBlock) (hl : v'.ownBlock = v.ownBlock ∨ v'.ownBlock = some W.heap.size) : Mid w0 ct cl cn y W' gr v' (k + m) (xs ++ ys) := by
  have hb : Below y.heap.size W W' := (Below.refl y.heap.size W).grown hg h.low (fun j hj => (h.own.lt j hj).1)
  have hby := h.bel.trans hb
  refine ⟨h.gy.below hby, hown, fun G hG => ?_, Nat.le_trans h.low hb.size, hby, h.gy⟩
  obtain ⟨h1, h2, h3⟩ := h.rb G hG
  have hlt : G < W.heap.size := (Array.getElem?_eq_some_iff.1 h1).1
  refine ⟨((Only.of_grown hg).block G hlt h3).trans h1, h2, fun h4 => ?_⟩
  rcases hl with h5 | h5
  · exact h3 (h5 ▸ h4)
  · rw [h5] at h4; injection h4 with h4; omega
theorem Mid.alloc (h : Mid w0 ct cl cn y W none v k xs) {g : Nat} (hg : g = W.heap.size) : Mid w0 ct cl cn y (W.alloc (.cells #[.int .i64 0, .slice none 0 0] 24)) (some g) v k xs := by
  subst hg
  have hb : Below W.heap.size W (W.alloc (.cells #[.int .i64 0, .slice none 0 0] 24)) := below_new
  refine ⟨h.gx.below hb, own_below h.own hb, fun G hG => ?_, Nat.le_trans h.low hb.size, h.bel.trans (hb.mono h.low), h.gy⟩
  injection hG with hG
  subst hG
  exact ⟨heap_alloc_new W _, h.gx.lt, fun h4 => absurd (h.own.lt _ h4).2 (Nat.lt_irrefl _)⟩
theorem Mid.drew (h : Mid w0 ct cl cn y W gr v k xs) : Mid w0 ct cl cn y W.drew gr v k xs :=
  ⟨⟨h.gx.tok, h.gx.lst, h.gx.nums, h.gx.bel.drew⟩, h.own, h.rb, h.low, h.bel.drew, h.gy⟩
theorem Mid.start (h : Gx w0 ct cl cn y) : Mid w0 ct cl cn y (y.alloc (.cells #[] 5)) none (.slice (some ⟨y.heap.size, 0, none⟩) 0 0) 0 [] :=
  ⟨h.below below_new, World.ownsRow_lit y #[] 0 (Nat.le_refl _) (Nat.zero_le _) rfl, (fun _ h => by cases h), below_new.size, below_new, h⟩
theorem Mid.late (h : Gx w0 ct cl cn y) : Mid w0 ct cl cn y ((y.alloc (.cells #[.int .i64 0, .slice none 0 0] 24)).alloc (.cells #[] 5)) (some y.heap.size) (.slice (some ⟨y.heap.size + 1, 0, none⟩) 0 0) 0 [] := by
  have hs : (y.alloc (.cells #[.int .i64 0, .slice none 0 0] 24)).heap.size = y.heap.size + 1 := by simp
  have hb1 : Below y.heap.size y (y.alloc (.cells #[.int .i64 0, .slice none 0 0] 24)) := below_new
  have hr : (y.alloc (.cells #[.int .i64 0, .slice none 0 0] 24)).heap[y.heap.size]? = some (.cells #[.int .i64 0, .slice none 0 0] 24 (0, 0)) := heap_alloc_new y _
  generalize y.alloc (.cells #[.int .i64 0, .slice none 0 0] 24) = y1 at *
  have hb2 : Below y1.heap.size y1 (y1.alloc (.cells #[] 5)) := below_new
  have ho := World.ownsRow_lit (e := 5) (size := 1) (base := y.heap.size) y1 #[] 0 hb1.size (Nat.zero_le _) rfl
  rw [hs] at ho
  refine ⟨(h.below hb1).below hb2, ho, fun G hG => ?_, Nat.le_trans hb1.size hb2.size, hb1.trans (hb2.mono hb1.size), h⟩
  injection hG with hG
  subst hG
  refine ⟨(hb2.block _ (by omega)).trans hr, h.lt, fun h4 => ?_⟩
  simp [Value.ownBlock] at h4
theorem Mid.fin {G : Nat} (h : Mid w0 ct cl cn y W (some G) v k xs) (hb : Below W.heap.size W W') : W'.heap[G]? = some (.cells #[.int .i64 0, .slice none 0 0] 24 (0, 0)) ∧ w0.heap.size + 1 + 1 < G ∧ G < W.heap.size := by
  obtain ⟨h1, h2, _⟩ := h.rb G rfl
  have hlt : G < W.heap.size := (Array.getElem?_eq_some_iff.1 h1).1
  exact ⟨(hb.block G hlt).trans h1, h2, hlt⟩
theorem Mid.new (h : Mid w0 ct cl cn y W gr v 32 xs) (hx : ∀ x ∈ xs, 0 ≤ x ∧ x ≤ 255) (hT : Lay w0) : Calls Tryd.prog 16 #[.int .i64 2, v] W (NewTo 2 xs W.heap.size W) := by
  obtain ⟨A, c, rfl, h1, h2, h3⟩ := own_max h.own
  exact new_ok 2 A 32 c xs W (Row.of_own h.own) h3 h1 (by unfold maxLen; omega) hx (by omega) (hT.below h.gx.bel hT.tab.1)
end

/-- Behind the ring's making: its block, its rows. -/
structure Nw (w0 : World) (ct cl cn : Array Value) (d : List Int) (G6 : Nat) (A : Option Addr) (n c : Nat) (K : List Kp) (w' : World) : Prop where
  gx : Gx w0 ct cl cn w'
  blk : w'.heap[G6]? = some (.cells #[.int .i64 2, .slice A n c] 24 (0, 0))
  row : KRow w' w'.heap.size A n K
  keys : ls K = [(1, Rg.keyOf d 1)]
  nil : A = none → c = 0
  fit : n ≤ c
section
variable {w0 y w4 : World} {ct cl cn : Array Value} {d : List Int} {A : Option Addr} {n c B G : Nat} {K : List Kp}
theorem nw_alloc (hx : Gx w0 ct cl cn w4) (hk : KRow w4 w4.heap.size A n K) (hl : ls K = [(1, Rg.keyOf d 1)]) (hnil : A = none → c = 0) (hf : n ≤ c) :
    Nw w0 ct cl cn d w4.heap.size A n c K (w4.alloc (.cells #[.int .i64 2, .slice A n c] 24)) :=
  ⟨hx.below below_new, heap_alloc_new w4 _, (hk.below below_new).more below_new.size, hl, hnil, hf⟩
theorem nw_set (hx : Gx w0 ct cl cn w4) (hk : KRow w4 w4.heap.size A n K) (hl : ls K = [(1, Rg.keyOf d 1)]) (hnil : A = none → c = 0) (hf : n ≤ c) (hfr : Fresh B A K) (hG : G < B) (hG0 : w0.heap.size + 1 + 1 < G) {u v : Value} (hblk : w4.heap[G]? = some (.cells #[u, v] 24 (0, 0))) :
    Nw w0 ct cl cn d G A n c K ((w4.setCell ⟨G, 0, none⟩ (.int .i64 2)).setCell ⟨G, 1, none⟩ (.slice A n c)) := by
  have hO : Only (fun k => k = G) w4 ((w4.setCell ⟨G, 0, none⟩ (.int .i64 2)).setCell ⟨G, 1, none⟩ (.slice A n c)) := (Only.setCell w4 ⟨G, 0, none⟩ _).trans (Only.setCell _ ⟨G, 1, none⟩ _) (fun _ _ h => h)
  exact ⟨⟨hO.at hx.tok (by omega), hO.at hx.lst (by omega), hO.at hx.nums (by omega), hx.bel.trans (hO.below hx.bel.size (fun k hk => by omega))⟩, set_blk (set_blk hblk), (hk.set (hfr.notIn hG) hO (Nat.le_refl _)).more hO.size, hl, hnil, hf⟩
end

theorem Nw.below {w0 w1 w2 : World} {ct cl cn : Array Value} {d : List Int} {G6 : Nat} {A : Option Addr} {n c : Nat} {K : List Kp} (h : Nw w0 ct cl cn d G6 A n c K w1) (hb : Below w1.heap.size w1 w2) : Nw w0 ct cl cn d G6 A n c K w2 :=
  ⟨h.gx.below hb, (hb.block _ (Array.getElem?_eq_some_iff.1 h.blk).1).trans h.blk, (h.row.below hb).more hb.size, h.keys, h.nil, h.fit⟩
theorem now_single {k : List Int} : now [(1, k)] = 1 := by simp [now]
theorem lastK_single {k : List Int} : lastK [(1, k)] = k := by simp [lastK]
theorem fnd_single {k : List Int} : fnd [(1, k)] 1 = some k := by simp [fnd]
theorem issue_may {k : List Int} {t : T} (hr : RtP 2 [(1, k)]) (h : (t.at 1).may) : issue 2 [(1, k)] t = (frame 2 (body k (t.at 1)), 0) := by
  have h1 := issue_yes (keep := 2) (E := [(1, k)]) (t := t) ⟨hr, by rw [now_single]; exact h⟩
  rwa [now_single, lastK_single] at h1
theorem issue_not {k : List Int} {t : T} (h : ¬ (t.at 1).may) : issue 2 [(1, k)] t = ([], 2) := issue_no (fun hh => h (by have := hh.2; rwa [now_single] at this))
theorem infoL : (Tryd.prog.info? 47).map (·.size) = some (#[.slice none 0 0, .slice none 0 0] : Array Value).size := by kernel_rfl
theorem far_max (a b : Int) : max (a - b) (b - a) = far a b := by unfold far; split <;> omega
theorem far_range {a b : Int} (ha : 0 ≤ a ∧ a ≤ 1099511627776) (hb : 0 ≤ b ∧ b ≤ 1099511627776) : 0 ≤ far a b ∧ far a b ≤ 1099511627776 := by unfold far; split <;> omega

set_option maxHeartbeats 3200000 in
set_option maxRecDepth 100000 in
theorem back_walk (t0 t1 t2 t3 t4 t5 n0 n1 n2 : Int) (p q : Part) (w : World) (ht : T.ok ⟨t0, t1, t2, t3, t4, t5⟩) (h0 : 0 ≤ n0 ∧ n0 ≤ 65535) (h1 : 0 ≤ n1 ∧ n1 ≤ 65535) (h2 : 0 ≤ n2 ∧ n2 ≤ 65535) (hp : Came w p) (hq : Came w q) (hT : Lay w) :
    Calls Tryd.prog 5 #[.agg #[.int .i64 t0, .int .i64 t1, .int .i64 t2, .int .i64 t3, .int .i64 t4, .int .i64 t5], .agg #[p.v, q.v], .agg #[.int .u16 n0, .int .u16 n1, .int .u16 n2]] w fun x w' => x = .returned (.bool true) ∧ Below w.heap.size w w' := by
  have HT := Lib.hid hT
  have HP := Lib.hid hp
  have HQ := Lib.hid hq
  have HTO := Lib.hid ht
  have HN0 := Lib.hid h0
  have HN1 := Lib.hid h1
  have HN2 := Lib.hid h2
  obtain ⟨pA, pn, pc, px⟩ := p
  obtain ⟨qA, qn, qc, qx⟩ := q
  unfold Part.v
  simp only
  have hx : Gx w #[.int .i64 t0, .int .i64 t1, .int .i64 t2, .int .i64 t3, .int .i64 t4, .int .i64 t5] #[.slice pA pn pc, .slice qA qn qc] #[.int .u16 n0, .int .u16 n1, .int .u16 n2] (((w.alloc (.cells #[.int .i64 t0, .int .i64 t1, .int .i64 t2, .int .i64 t3, .int .i64 t4, .int .i64 t5] 41)).alloc (.cells #[.slice pA pn pc, .slice qA qn qc] 47)).alloc (.cells #[.int .u16 n0, .int .u16 n1, .int .u16 n2] 49)) := Gx.new
  have HX := Lib.hid hx
  clear hT hp hq hx ht h0 h1 h2
  go_enter Tryd.func5, Tryd.ntmps5
  go_wp2_with fail
  refine (awake_any _ (HT.out.below HX.out.bel HT.out.tab.1)).mono ?_
  rintro e1 w1 ⟨rfl, hb1⟩
  have HX1 := Lib.hid (HX.out.below hb1)
  have l0 : w1.cell? ⟨w.heap.size + 1, 0, none⟩ = some (.slice pA pn pc) := cell_of_blk HX1.out.lst rfl
  have l1 : w1.cell? ⟨w.heap.size + 1, 1, none⟩ = some (.slice qA qn qc) := cell_of_blk HX1.out.lst rfl
  clear hb1 HX
  by_cases hpn : pn = 16
  · subst hpn
    by_cases hqn : qn = 16
    · subst hqn
      obtain ⟨pb, po, ep, -, -⟩ := HP.out.row.2 (by show 0 < 16; omega)
      obtain ⟨qb, qo, eq, -, -⟩ := HQ.out.row.2 (by show 0 < 16; omega)
      simp only at ep eq
      subst ep eq
      obtain ⟨i0, hi, hz0, hz1, hz2⟩ := parts_of info8
      have HDB : Hid (∀ x ∈ [] ++ px ++ qx, 0 ≤ x ∧ x ≤ 255) := fun x hx => by
        rcases List.mem_append.1 hx with hx | hx
        · exact HP.out.byt x hx
        · exact HQ.out.byt x hx
      have HDL : Hid (([] ++ px ++ qx).length = 32) := by unfold Hid; have h1 : px.length = 16 := HP.out.row.1; have h2 : qx.length = 16 := HQ.out.row.1; simp; omega
      have KEEP : Hid (∀ wx, Gx w #[.int .i64 t0, .int .i64 t1, .int .i64 t2, .int .i64 t3, .int .i64 t4, .int .i64 t5] #[.slice (some ⟨pb, po, none⟩) 16 pc, .slice (some ⟨qb, qo, none⟩) 16 qc] #[.int .u16 n0, .int .u16 n1, .int .u16 n2] wx → wx.cell? ⟨w.heap.size + 1, 0, none⟩ = some (.slice (some ⟨pb, po, none⟩) 16 pc) ∧ wx.cell? ⟨w.heap.size + 1, 1, none⟩ = some (.slice (some ⟨qb, qo, none⟩) 16 qc)) := fun wx hx => ⟨cell_of_blk hx.lst rfl, cell_of_blk hx.lst rfl⟩
      have HNEW : Hid (∀ W gr v, Mid w #[.int .i64 t0, .int .i64 t1, .int .i64 t2, .int .i64 t3, .int .i64 t4, .int .i64 t5] #[.slice (some ⟨pb, po, none⟩) 16 pc, .slice (some ⟨qb, qo, none⟩) 16 qc] #[.int .u16 n0, .int .u16 n1, .int .u16 n2] w1 W gr v (0 + 16 + 16) ([] ++ px ++ qx) → Calls Tryd.prog 16 #[.int .i64 2, v] W (NewTo 2 ([] ++ px ++ qx) W.heap.size W)) := fun W gr v h => Mid.new h HDB.out HT.out
      have HME : Hid (Mid w #[.int .i64 t0, .int .i64 t1, .int .i64 t2, .int .i64 t3, .int .i64 t4, .int .i64 t5] #[.slice (some ⟨pb, po, none⟩) 16 pc, .slice (some ⟨qb, qo, none⟩) 16 qc] #[.int .u16 n0, .int .u16 n1, .int .u16 n2] w1 (w1.alloc (.cells #[] 5)).drew none (.slice (some ⟨w1.heap.size, 0, none⟩) 0 0) 0 []) := (Mid.start HX1.out).drew
      have HMEZ : Hid (Mid w #[.int .i64 t0, .int .i64 t1, .int .i64 t2, .int .i64 t3, .int .i64 t4, .int .i64 t5] #[.slice (some ⟨pb, po, none⟩) 16 pc, .slice (some ⟨qb, qo, none⟩) 16 qc] #[.int .u16 n0, .int .u16 n1, .int .u16 n2] w1 ((w1.alloc (.cells #[] 5)).alloc (.cells #[.int .i64 0, .slice none 0 0] 24)).drew (some (w1.heap.size + 1)) (.slice (some ⟨w1.heap.size, 0, none⟩) 0 0) 0 []) := ((Mid.start HX1.out).alloc (by simp)).drew
      have HMZE : Hid (Mid w #[.int .i64 t0, .int .i64 t1, .int .i64 t2, .int .i64 t3, .int .i64 t4, .int .i64 t5] #[.slice (some ⟨pb, po, none⟩) 16 pc, .slice (some ⟨qb, qo, none⟩) 16 qc] #[.int .u16 n0, .int .u16 n1, .int .u16 n2] w1 ((w1.alloc (.cells #[.int .i64 0, .slice none 0 0] 24)).alloc (.cells #[] 5)).drew (some w1.heap.size) (.slice (some ⟨w1.heap.size + 1, 0, none⟩) 0 0) 0 []) := (Mid.late HX1.out).drew
      have aS := KEEP.out w1.drew ⟨HX1.out.tok, HX1.out.lst, HX1.out.nums, HX1.out.bel.drew⟩
      have aE := KEEP.out _ HME.out.gx
      have aEZ := KEEP.out _ HMEZ.out.gx
      have aZE := KEEP.out _ HMZE.out.gx
      have hbz : Below w1.heap.size w1 (w1.alloc (.cells #[.int .i64 0, .slice none 0 0] 24)).drew := below_new.drew
      have aZ := KEEP.out _ (HX1.out.below hbz)
      clear hbz
      go_upto_region 5 with fail
      go_cut [7, 8] (fun pv ev wr => ∃ G6 A6 n6 c6 K6, pv = .pointer (some ⟨G6, 0, none⟩) ∧ ev = .int .i64 0 ∧ Nw w #[.int .i64 t0, .int .i64 t1, .int .i64 t2, .int .i64 t3, .int .i64 t4, .int .i64 t5] #[.slice (some ⟨pb, po, none⟩) 16 pc, .slice (some ⟨qb, qo, none⟩) 16 qc] #[.int .u16 n0, .int .u16 n1, .int .u16 n2] ([] ++ px ++ qx) G6 A6 n6 c6 K6 wr)
      case first =>
        go_region_held3 (fun wx => wx.cell? ⟨w.heap.size + 1, 0, none⟩ = some (.slice (some ⟨pb, po, none⟩) 16 pc) ∧ wx.cell? ⟨w.heap.size + 1, 1, none⟩ = some (.slice (some ⟨qb, qo, none⟩) 16 qc)) (first | (with_reducible exact aS) | (with_reducible exact aE) | (with_reducible exact aZ) | (with_reducible exact aZE) | (with_reducible exact aEZ) | (with_reducible exact aw2) | (with_reducible exact aw2z) | (with_reducible exact aw3) | (with_reducible exact aw3z) | (with_reducible exact a4) | (with_reducible exact a4z) | (with_reducible exact a4y) | (with_reducible exact a4s) ) (first
          | ((with_reducible show (if _ = true then Oper.wp _ _ _ (w1.alloc (.cells #[] 5)).drew _ _ else _)); (refine StepC.step_cat rfl (.tmp 35) (.tmp 37) 25 rfl w1.heap.size 5 i0 .u8 1 Tryd.underlying25 hi hz0 hz1 hz2 _ 0 [] rfl HME.out.own w.heap.size ⟨pb, po, none⟩ 16 pc px rfl (HP.out.row.below HME.out.gx.bel) (by omega) (by omega) HME.out.low ?_); go_loud (intro v2 w2 hown hg hl; have HM2 := Lib.hid ((HME.out).app hown hg hl); have aw2 := KEEP.out w2 HM2.out.gx; try have HM2z := Lib.hid ((HM2.out).alloc (g := w2.heap.size) rfl); try have aw2z := KEEP.out _ HM2z.out.gx; clear hown hg hl))
          | ((with_reducible show (if _ = true then Oper.wp _ _ _ ((w1.alloc (.cells #[.int .i64 0, .slice none 0 0] 24)).alloc (.cells #[] 5)).drew _ _ else _)); (refine StepC.step_cat rfl (.tmp 35) (.tmp 37) 25 rfl w1.heap.size 5 i0 .u8 1 Tryd.underlying25 hi hz0 hz1 hz2 _ 0 [] rfl HMZE.out.own w.heap.size ⟨pb, po, none⟩ 16 pc px rfl (HP.out.row.below HMZE.out.gx.bel) (by omega) (by omega) HMZE.out.low ?_); go_loud (intro v2 w2 hown hg hl; have HM2 := Lib.hid ((HMZE.out).app hown hg hl); have aw2 := KEEP.out w2 HM2.out.gx; try have HM2z := Lib.hid ((HM2.out).alloc (g := w2.heap.size) rfl); try have aw2z := KEEP.out _ HM2z.out.gx; clear hown hg hl))
          | ((with_reducible show (if _ = true then Oper.wp _ _ _ ((w1.alloc (.cells #[] 5)).alloc (.cells #[.int .i64 0, .slice none 0 0] 24)).drew _ _ else _)); (refine StepC.step_cat rfl (.tmp 35) (.tmp 37) 25 rfl w1.heap.size 5 i0 .u8 1 Tryd.underlying25 hi hz0 hz1 hz2 _ 0 [] rfl HMEZ.out.own w.heap.size ⟨pb, po, none⟩ 16 pc px rfl (HP.out.row.below HMEZ.out.gx.bel) (by omega) (by omega) HMEZ.out.low ?_); go_loud (intro v2 w2 hown hg hl; have HM2 := Lib.hid ((HMEZ.out).app hown hg hl); have aw2 := KEEP.out w2 HM2.out.gx; try have HM2z := Lib.hid ((HM2.out).alloc (g := w2.heap.size) rfl); try have aw2z := KEEP.out _ HM2z.out.gx; clear hown hg hl))
          | ((with_reducible show (if _ = true then Oper.wp _ _ _ w2 _ _ else _)); (refine StepC.step_cat rfl (.tmp 38) (.tmp 40) 25 rfl w1.heap.size 5 i0 .u8 1 Tryd.underlying25 hi hz0 hz1 hz2 _ (0 + 16) ([] ++ px) rfl HM2.out.own w.heap.size ⟨qb, qo, none⟩ 16 qc qx rfl (HQ.out.row.below HM2.out.gx.bel) (by omega) (by omega) HM2.out.low ?_); go_loud (intro v3 w3 hown hg hl; have HM3 := Lib.hid ((HM2.out).app hown hg hl); have aw3 := KEEP.out w3 HM3.out.gx; try have HM3z := Lib.hid ((HM3.out).alloc (g := w3.heap.size) rfl); try have aw3z := KEEP.out _ HM3z.out.gx; clear hown hg hl))
          | ((with_reducible show (if _ = true then Oper.wp _ _ _ (w2.alloc (.cells #[.int .i64 0, .slice none 0 0] 24)) _ _ else _)); (refine StepC.step_cat rfl (.tmp 38) (.tmp 40) 25 rfl w1.heap.size 5 i0 .u8 1 Tryd.underlying25 hi hz0 hz1 hz2 _ (0 + 16) ([] ++ px) rfl HM2z.out.own w.heap.size ⟨qb, qo, none⟩ 16 qc qx rfl (HQ.out.row.below HM2z.out.gx.bel) (by omega) (by omega) HM2z.out.low ?_); go_loud (intro v3 w3 hown hg hl; have HM3 := Lib.hid ((HM2z.out).app hown hg hl); have aw3 := KEEP.out w3 HM3.out.gx; try have HM3z := Lib.hid ((HM3.out).alloc (g := w3.heap.size) rfl); try have aw3z := KEEP.out _ HM3z.out.gx; clear hown hg hl))
          | (go_at_call 16; (with_reducible refine (HNEW.out _ (some _) _ HM3.out).mono ?_); go_loud (rintro x4 w4 hN; obtain ⟨A4, n4, c4, K4, rfl, hk4, hls4, hfr4, hnil4, hnc4, hb4⟩ := hN.yes ⟨by omega, HDL.out⟩; have HX4 := Lib.hid (HM3.out.gx.below hb4); have a4 := KEEP.out w4 HX4.out; have HROW := Lib.hid hk4; have HLS := Lib.hid hls4; have HFR := Lib.hid hfr4; have HNI := Lib.hid (And.intro hnil4 hnc4); have hfin := HM3.out.fin hb4; have HFIN := Lib.hid hfin; have o0 := cell_of_blk (j := 0) hfin.1 rfl; have o1 := cell_of_blk (j := 1) hfin.1 rfl; have o2 := free_of_blk (j := 0) hfin.1; have o3 := free_of_blk (j := 1) hfin.1; have a4s := KEEP.out _ (nw_set HX4.out HROW.out HLS.out HNI.out.1 HNI.out.2 HFR.out HFIN.out.2.2 HFIN.out.2.1 HFIN.out.1).gx; clear hfin; clear hN hk4 hls4 hfr4 hnil4 hnc4 hb4))
          | (go_at_call 16; (with_reducible refine (HNEW.out _ none _ HM3.out).mono ?_); go_loud (rintro x4 w4 hN; obtain ⟨A4, n4, c4, K4, rfl, hk4, hls4, hfr4, hnil4, hnc4, hb4⟩ := hN.yes ⟨by omega, HDL.out⟩; have HX4 := Lib.hid (HM3.out.gx.below hb4); have a4 := KEEP.out w4 HX4.out; have HROW := Lib.hid hk4; have HLS := Lib.hid hls4; have HFR := Lib.hid hfr4; have HNI := Lib.hid (And.intro hnil4 hnc4); have a4z := KEEP.out (w4.alloc (.cells #[.int .i64 0, .slice none 0 0] 24)) (HX4.out.below below_new); have a4y := KEEP.out (w4.alloc (.cells #[.int .i64 2, .slice A4 n4 c4] 24)) (HX4.out.below below_new); clear hN hk4 hls4 hfr4 hnil4 hnc4 hb4))
          | (go_at_call 16; (with_reducible refine (HNEW.out _ (some _) _ HM3z.out).mono ?_); go_loud (rintro x4 w4 hN; obtain ⟨A4, n4, c4, K4, rfl, hk4, hls4, hfr4, hnil4, hnc4, hb4⟩ := hN.yes ⟨by omega, HDL.out⟩; have HX4 := Lib.hid (HM3z.out.gx.below hb4); have a4 := KEEP.out w4 HX4.out; have HROW := Lib.hid hk4; have HLS := Lib.hid hls4; have HFR := Lib.hid hfr4; have HNI := Lib.hid (And.intro hnil4 hnc4); have hfin := HM3z.out.fin hb4; have HFIN := Lib.hid hfin; have o0 := cell_of_blk (j := 0) hfin.1 rfl; have o1 := cell_of_blk (j := 1) hfin.1 rfl; have o2 := free_of_blk (j := 0) hfin.1; have o3 := free_of_blk (j := 1) hfin.1; have a4s := KEEP.out _ (nw_set HX4.out HROW.out HLS.out HNI.out.1 HNI.out.2 HFR.out HFIN.out.2.2 HFIN.out.2.1 HFIN.out.1).gx; clear hfin; clear hN hk4 hls4 hfr4 hnil4 hnc4 hb4)))
        all_goals
          go_wp2_with fail
          go_meet
          first
            | exact ⟨_, _, _, _, _, rfl, rfl, nw_set HX4.out HROW.out HLS.out HNI.out.1 HNI.out.2 HFR.out HFIN.out.2.2 HFIN.out.2.1 HFIN.out.1⟩
            | exact ⟨_, _, _, _, _, rfl, rfl, nw_alloc HX4.out HROW.out HLS.out HNI.out.1 HNI.out.2⟩
      case rest =>
        obtain ⟨G6, A6, n6, c6, K6, rfl, rfl, hn6⟩ := hcut
        have HN6 : Hid (Nw w #[.int .i64 t0, .int .i64 t1, .int .i64 t2, .int .i64 t3, .int .i64 t4, .int .i64 t5] #[.slice (some ⟨pb, po, none⟩) 16 pc, .slice (some ⟨qb, qo, none⟩) 16 qc] #[.int .u16 n0, .int .u16 n1, .int .u16 n2] ([] ++ px ++ qx) G6 A6 n6 c6 K6 wc) := hn6
        obtain ⟨k0', hk0'⟩ : ∃ k, k = Rg.keyOf ([] ++ px ++ qx) 1 := ⟨_, rfl⟩
        have HKS : Hid (ls K6 = [(1, k0')]) := by rw [hk0']; exact hn6.keys
        have HRT : Hid (RtP 2 [(1, k0')]) := by rw [hk0']; exact rt_one (by omega) _
        have HSM : Hid (Small n6 K6) := small_of (keep := 2) hn6.row (by rw [HKS.out]; exact HRT.out)
        have hiss := issue_any 2 A6 n6 c6 K6 ⟨t0, t1, t2, t3, t4, t5⟩ wc hn6.row HSM.out (HT.out.below hn6.gx.bel HT.out.tab.1)
        rw [HKS.out] at hiss
        have HISS : Hid (Calls Tryd.prog 17 #[.agg #[.int .i64 2, .slice A6 n6 c6], .agg #[.int .i64 t0, .int .i64 t1, .int .i64 t2, .int .i64 t3, .int .i64 t4, .int .i64 t5]] wc (IssTo wc (issue 2 [(1, k0')] ⟨t0, t1, t2, t3, t4, t5⟩))) := hiss
        clear hn6 hk0' hiss HX1 l0 l1
        have r0 : wc.cell? ⟨G6, 0, none⟩ = some (.int .i64 2) := cell_of_blk HN6.out.blk rfl
        have r1 : wc.cell? ⟨G6, 1, none⟩ = some (.slice A6 n6 c6) := cell_of_blk HN6.out.blk rfl
        have k0 : wc.cell? ⟨w.heap.size, 0, none⟩ = some (.int .i64 t0) := cell_of_blk HN6.out.gx.tok rfl
        have k1 : wc.cell? ⟨w.heap.size, 1, none⟩ = some (.int .i64 t1) := cell_of_blk HN6.out.gx.tok rfl
        have k2 : wc.cell? ⟨w.heap.size, 2, none⟩ = some (.int .i64 t2) := cell_of_blk HN6.out.gx.tok rfl
        have k3 : wc.cell? ⟨w.heap.size, 3, none⟩ = some (.int .i64 t3) := cell_of_blk HN6.out.gx.tok rfl
        have k4 : wc.cell? ⟨w.heap.size, 4, none⟩ = some (.int .i64 t4) := cell_of_blk HN6.out.gx.tok rfl
        have k5 : wc.cell? ⟨w.heap.size, 5, none⟩ = some (.int .i64 t5) := cell_of_blk HN6.out.gx.tok rfl
        go_wp2_with fail
        refine HISS.out.mono ?_
        rintro e7 w7 ⟨A7, n7, c7, rfl, hr7, hnil7, hnc7, hcm7, hb7⟩
        have HN7 := Lib.hid (HN6.out.below hb7)
        clear r0 r1 k0 k1 k2 k3 k4 k5 hb7 HISS HN6
        by_cases hmay : (⟨t0, t1, t2, t3, t4, 1⟩ : T).may
        · rw [issue_may (t := ⟨t0, t1, t2, t3, t4, t5⟩) HRT.out hmay] at hr7 ⊢
          obtain ⟨bs, hbs⟩ : ∃ bs, bs = frame 2 (body k0' (⟨t0, t1, t2, t3, t4, 1⟩ : T)) := ⟨_, rfl⟩
          have HBS : Hid (frame 2 (body k0' ((⟨t0, t1, t2, t3, t4, t5⟩ : T).at 1)) = bs) := hbs.symm
          rw [HBS.out] at hr7
          have hbl : bs.length ≤ 200 := by
            have h1 := body_len (k := k0') hmay.ok
            have h2 : (put (body k0' (⟨t0, t1, t2, t3, t4, 1⟩ : T)).length).length ≤ 10 := put_len10 (by omega)
            rw [hbs, frame_len]
            omega
          have HBB : Hid (Byt bs) := by unfold Hid; rw [hbs]; exact frame_byt (by omega) (body_byt _ _)
          have hn7 : n7 ≤ 200 := by rw [← hr7.1]; exact hbl
          have HR7 := Lib.hid hr7
          have HF7 := Lib.hid (And.intro hnil7 (And.intro hnc7 hcm7))
          obtain ⟨kk, hkk⟩ : ∃ kk, kk = devK k0' bs := ⟨_, rfl⟩
          have HDE : Hid (device (ls K6) bs = (kk, 0)) := by
            unfold Hid
            rw [HKS.out, hkk, hbs]
            exact device_body hmay fnd_single
          have HVE : Hid (∀ nw, t3 ≤ nw → nw ≤ t4 → verify (ls K6) bs nw = (⟨t0, t1, t2, t3, t4, 1⟩, 0)) := fun nw ha hb => by
            rw [HKS.out, hbs, verify_body hmay fnd_single, if_neg (by simp only; omega)]
          have HKL : Hid (kk.length = 32 ∧ ∀ x ∈ kk, 0 ≤ x ∧ x ≤ 255) := by unfold Hid; rw [hkk]; exact ⟨devK_len _ _, devK_byt _ _⟩
          have hm := hmay
          unfold T.may at hm
          simp only at hm
          obtain ⟨-, -, -, hm3, hm4, hm5, -⟩ := hm
          have hdev := device_any 2 A6 A7 n6 c6 n7 c7 K6 bs w7 HN7.out.row HSM.out hr7 hnil7 HBB.out (by omega) hnc7 hcm7 (HT.out.below HN7.out.gx.bel HT.out.tab.1)
          rw [HDE.out] at hdev
          have HDEV := Lib.hid hdev
          have HM := Lib.hid (And.intro hm3 (And.intro hm4 hm5))
          clear hr7 hnil7 hnc7 hcm7 hbl hkk hbs hmay hdev
          have r0 : w7.cell? ⟨G6, 0, none⟩ = some (.int .i64 2) := cell_of_blk HN7.out.blk rfl
          have r1 : w7.cell? ⟨G6, 1, none⟩ = some (.slice A6 n6 c6) := cell_of_blk HN7.out.blk rfl
          go_wp2_with fail
          refine HDEV.out.mono ?_
          rintro e9 w9 ⟨A9, n9, c9, rfl, hr9, hnil9, hnc9, hcm9, hb9⟩
          simp only at hr9
          have hn9 : n9 = 32 := by rw [← hr9.1]; exact HKL.out.1
          subst hn9
          have HN9 := Lib.hid (HN7.out.below hb9)
          have HR79 := Lib.hid ((HR7.out.below hb9).more hb9.size)
          have HR9 := Lib.hid hr9
          have HF9 := Lib.hid (And.intro hnil9 hnc9)
          clear r0 r1 hr9 hnil9 hnc9 hcm9 hb9 HDEV HN7 HR7
          -- the two times
          have p1 : IntKind.i64.wrap (t4 - t3) = t4 - t3 := IntWalk.i64_in _ ⟨by omega, by omega⟩
          have p2 : IntKind.i64.wrap (t4 - t3 + 1) = t4 - t3 + 1 := IntWalk.i64_in _ ⟨by omega, by omega⟩
          have p3 : ¬ (t4 - t3 + 1 = 0) := by omega
          have hn0 := HN0.out
          have hn1 := HN1.out
          have c0 : IntKind.i64.wrap n0 = n0 := IntWalk.i64_in _ ⟨by omega, by omega⟩
          have c1 : IntKind.i64.wrap n1 = n1 := IntWalk.i64_in _ ⟨by omega, by omega⟩
          have hat := at_in hm5 n0.toNat
          have hnw := at_in hm5 n1.toNat
          rw [Int.toNat_of_nonneg hn0.1] at hat
          rw [Int.toNat_of_nonneg hn1.1] at hnw
          have p4 : IntKind.i64.wrap (n0.tmod (t4 - t3 + 1)) = n0.tmod (t4 - t3 + 1) := IntWalk.i64_in _ ⟨by omega, by omega⟩
          have p5 : IntKind.i64.wrap (t3 + n0.tmod (t4 - t3 + 1)) = t3 + n0.tmod (t4 - t3 + 1) := IntWalk.i64_in _ ⟨by omega, by omega⟩
          have p6 : IntKind.i64.wrap (n1.tmod (t4 - t3 + 1)) = n1.tmod (t4 - t3 + 1) := IntWalk.i64_in _ ⟨by omega, by omega⟩
          have p7 : IntKind.i64.wrap (t3 + n1.tmod (t4 - t3 + 1)) = t3 + n1.tmod (t4 - t3 + 1) := IntWalk.i64_in _ ⟨by omega, by omega⟩
          obtain ⟨at_, hate⟩ : ∃ at_, t3 + n0.tmod (t4 - t3 + 1) = at_ := ⟨_, rfl⟩
          obtain ⟨nw, hnwe⟩ : ∃ nw, t3 + n1.tmod (t4 - t3 + 1) = nw := ⟨_, rfl⟩
          rw [hate] at hat
          rw [hnwe] at hnw
          have HATE := Lib.hid hate
          have HNWE := Lib.hid hnwe
          have HAT := Lib.hid hat
          have HNW := Lib.hid hnw
          clear hat hnw hate hnwe hn0 hn1 hm3 hm4 hm5
          have k3 : w9.cell? ⟨w.heap.size, 3, none⟩ = some (.int .i64 t3) := cell_of_blk HN9.out.gx.tok rfl
          have k4 : w9.cell? ⟨w.heap.size, 4, none⟩ = some (.int .i64 t4) := cell_of_blk HN9.out.gx.tok rfl
          have m0 : w9.cell? ⟨w.heap.size + 1 + 1, 0, none⟩ = some (.int .u16 n0) := cell_of_blk HN9.out.gx.nums rfl
          go_wp2_with fail
          go_quiet (fail)
          rw [HATE.out]
          have HN10 : Hid (Nw w #[.int .i64 t0, .int .i64 t1, .int .i64 t2, .int .i64 t3, .int .i64 t4, .int .i64 t5] #[.slice (some ⟨pb, po, none⟩) 16 pc, .slice (some ⟨qb, qo, none⟩) 16 qc] #[.int .u16 n0, .int .u16 n1, .int .u16 n2] ([] ++ px ++ qx) G6 A6 n6 c6 K6 (w9.drewN nq)) := HN9.out.below (Rg.below_drewN (Below.refl _ _))
          have HR710 : Hid (Row .u8 (w9.drewN nq) (w9.drewN nq).heap.size A7 n7 bs) := HR79.out.below (Rg.below_drewN (Below.refl _ _))
          have HR910 : Hid (Row .u8 (w9.drewN nq) (w9.drewN nq).heap.size A9 32 kk) := HR9.out.below (Rg.below_drewN (Below.refl _ _))
          generalize w9.drewN nq = w10 at *
          clear k3 k4 m0 p4 p5 HN9 HR79 HR9 HATE
          have k3 : w10.cell? ⟨w.heap.size, 3, none⟩ = some (.int .i64 t3) := cell_of_blk HN10.out.gx.tok rfl
          have k4 : w10.cell? ⟨w.heap.size, 4, none⟩ = some (.int .i64 t4) := cell_of_blk HN10.out.gx.tok rfl
          have m1 : w10.cell? ⟨w.heap.size + 1 + 1, 1, none⟩ = some (.int .u16 n1) := cell_of_blk HN10.out.gx.nums rfl
          go_wp2_with fail
          go_quiet (fail)
          rw [HNWE.out]
          have HN11 : Hid (Nw w #[.int .i64 t0, .int .i64 t1, .int .i64 t2, .int .i64 t3, .int .i64 t4, .int .i64 t5] #[.slice (some ⟨pb, po, none⟩) 16 pc, .slice (some ⟨qb, qo, none⟩) 16 qc] #[.int .u16 n0, .int .u16 n1, .int .u16 n2] ([] ++ px ++ qx) G6 A6 n6 c6 K6 (w10.drewN nq)) := HN10.out.below (Rg.below_drewN (Below.refl _ _))
          have HR711 : Hid (Row .u8 (w10.drewN nq) (w10.drewN nq).heap.size A7 n7 bs) := HR710.out.below (Rg.below_drewN (Below.refl _ _))
          have HR911 : Hid (Row .u8 (w10.drewN nq) (w10.drewN nq).heap.size A9 32 kk) := HR910.out.below (Rg.below_drewN (Below.refl _ _))
          generalize w10.drewN nq = w11 at *
          clear k3 k4 m1 p1 p2 p3 p6 p7 c0 c1 HN10 HR710 HR910 HNWE
          have HATR : Hid (0 ≤ at_ ∧ at_ ≤ 1099511627776) := by have h1 := HAT.out; have h2 := HM.out; unfold Hid; omega
          have HNWR : Hid (0 ≤ nw ∧ nw ≤ 1099511627776) := by have h1 := HNW.out; have h2 := HM.out; unfold Hid; omega
          have hans := answer_any A9 (some ⟨pb, po, none⟩) 32 c9 16 pc kk px at_ w11 HR911.out HF9.out.2 (by omega) HKL.out.2 (HP.out.at HN11.out.gx.bel) HP.out.nil HP.out.fit (by omega) HP.out.byt (HT.out.below HN11.out.gx.bel HT.out.tab.1)
          rw [answer_yes ⟨HP.out.row.1, HATR.out.1, HATR.out.2⟩] at hans
          obtain ⟨an, han⟩ : ∃ an, an = frame 6 (cont kk px at_) := ⟨_, rfl⟩
          rw [← han] at hans
          have HANE := Lib.hid han
          have HANL : Hid (an.length ≤ 100) := by
            unfold Hid
            have h1 := cont_len (k := kk) (q := px) (t := at_) (by have := HATR.out.2; omega)
            have h2 : (put (cont kk px at_).length).length ≤ 10 := put_len10 (by omega)
            rw [han, frame_len]
            omega
          have HANB : Hid (Byt an) := by unfold Hid; rw [han]; exact frame_byt (by omega) (cont_byt _ _ _)
          have HANS := Lib.hid hans
          clear hans han
          have l0 : w11.cell? ⟨w.heap.size + 1, 0, none⟩ = some (.slice (some ⟨pb, po, none⟩) 16 pc) := cell_of_blk HN11.out.gx.lst rfl
          go_wp2_with fail
          refine HANS.out.mono ?_
          rintro e13 w13 ⟨A13, n13, c13, rfl, hr13, hnil13, hnc13, hcm13, hb13⟩
          simp only at hr13
          have HN13 := Lib.hid (HN11.out.below hb13)
          have HR713 := Lib.hid ((HR711.out.below hb13).more hb13.size)
          have HR913 := Lib.hid ((HR911.out.below hb13).more hb13.size)
          have HR13 := Lib.hid hr13
          have HF13 := Lib.hid (And.intro hnil13 (And.intro hnc13 hcm13))
          have hn13 : n13 ≤ 100 := by rw [← hr13.1]; exact HANL.out
          clear l0 hr13 hnil13 hnc13 hcm13 hb13 HANS HN11 HR711 HR911
          have HCHK : Hid (∀ (Aq : Option Addr) (nq cq : Nat) (q : List Int) (sl : Int) (wx : World), Nw w #[.int .i64 t0, .int .i64 t1, .int .i64 t2, .int .i64 t3, .int .i64 t4, .int .i64 t5] #[.slice (some ⟨pb, po, none⟩) 16 pc, .slice (some ⟨qb, qo, none⟩) 16 qc] #[.int .u16 n0, .int .u16 n1, .int .u16 n2] ([] ++ px ++ qx) G6 A6 n6 c6 K6 wx → Row .u8 wx wx.heap.size A7 n7 bs → Row .u8 wx wx.heap.size A13 n13 an → Row .u8 wx wx.heap.size Aq nq q → (Aq = none → cq = 0) → Byt q → nq ≤ 1000 → nq ≤ cq → Calls Tryd.prog 14 #[.agg #[.int .i64 2, .slice A6 n6 c6], .slice A7 n7 c7, .slice Aq nq cq, .slice A13 n13 c13, .int .i64 nw, .int .i64 sl] wx (VerTo wx (check (ls K6) bs q an nw sl))) :=
            fun Aq nq cq q sl wx hx hb ha hq h1 h2 h3 h4 => check_any 2 nw sl A6 A7 Aq A13 n6 c6 n7 c7 nq cq n13 c13 K6 bs q an wx hx.row HSM.out hb HF7.out.1 HBB.out (by omega) HF7.out.2.1 HF7.out.2.2 hq h1 h2 (by omega) h4 ha HF13.out.1 HANB.out (by omega) HF13.out.2.1 HF13.out.2.2 (HT.out.below hx.gx.bel HT.out.tab.1)
          have HCE : Hid (∀ (q : List Int) (sl : Int), q.length = 16 → 0 ≤ sl → check (ls K6) bs q an nw sl = if sl < at_ - nw ∨ sl < nw - at_ then (T.zero, 22) else if ansT kk px at_ = ansT kk q at_ then (⟨t0, t1, t2, t3, t4, 1⟩, 0) else (T.zero, 21)) := fun q sl h1 h2 => by
            rw [HANE.out]
            exact check_cont ⟨h1, HNWR.out.1, HNWR.out.2⟩ h2 (HVE.out nw HNW.out.1 HNW.out.2) (by rw [HDE.out]) HATR.out.1 HATR.out.2
          have hnr := HNWR.out
          have har := HATR.out
          have p1 : IntKind.i64.wrap (at_ - nw) = at_ - nw := IntWalk.i64_in _ ⟨by omega, by omega⟩
          have p2 : IntKind.i64.wrap (nw - at_) = nw - at_ := IntWalk.i64_in _ ⟨by omega, by omega⟩
          obtain ⟨off, hoff⟩ : ∃ off, max (at_ - nw) (nw - at_) = off := ⟨_, rfl⟩
          have hoff0 : 0 ≤ off := by rw [← hoff]; omega
          have hoffa : ¬ (off < at_ - nw ∨ off < nw - at_) := by rw [← hoff]; omega
          have hoffb : ∀ s, (s < at_ - nw ∨ s < nw - at_) ↔ s < off := fun s => by rw [← hoff]; omega
          have HO := Lib.hid (And.intro hoff0 (And.intro hoffa hoffb))
          have hn2 := HN2.out
          have c2' : IntKind.i64.wrap n2 = n2 := IntWalk.i64_in _ ⟨by omega, by omega⟩
          have hc1 := HCE.out px n2 HP.out.row.1 hn2.1
          have HK1 := Lib.hid (HCHK.out (some ⟨pb, po, none⟩) 16 pc px n2 w13 HN13.out HR713.out HR13.out (HP.out.at HN13.out.gx.bel) HP.out.nil HP.out.byt (by omega) HP.out.fit)
          obtain ⟨v, hv⟩ : ∃ v, v = check (ls K6) bs px an nw n2 := ⟨_, rfl⟩
          rw [← hv] at hc1 HK1
          obtain ⟨⟨v0, v1, v2, v3, v4, v5⟩, ve⟩ := v
          have HC1 := Lib.hid hc1
          clear hnr har hoff0 hoffa hoffb hn2 hc1 hv
          have r0 : w13.cell? ⟨G6, 0, none⟩ = some (.int .i64 2) := cell_of_blk HN13.out.blk rfl
          have r1 : w13.cell? ⟨G6, 1, none⟩ = some (.slice A6 n6 c6) := cell_of_blk HN13.out.blk rfl
          have l0 : w13.cell? ⟨w.heap.size + 1, 0, none⟩ = some (.slice (some ⟨pb, po, none⟩) 16 pc) := cell_of_blk HN13.out.gx.lst rfl
          have m2 : w13.cell? ⟨w.heap.size + 1 + 1, 2, none⟩ = some (.int .u16 n2) := cell_of_blk HN13.out.gx.nums rfl
          go_wp2_with fail
          refine HK1.out.mono ?_
          rintro e16 w16 ⟨rfl, hb16⟩
          unfold T.val T.cells
          simp only
          have hb17 : Below w13.heap.size w13 (w16.alloc (.cells #[.int .i64 v0, .int .i64 v1, .int .i64 v2, .int .i64 v3, .int .i64 v4, .int .i64 v5] 41)) := hb16.trans (below_new.mono hb16.size)
          have HN17 : Hid (Nw w #[.int .i64 t0, .int .i64 t1, .int .i64 t2, .int .i64 t3, .int .i64 t4, .int .i64 t5] #[.slice (some ⟨pb, po, none⟩) 16 pc, .slice (some ⟨qb, qo, none⟩) 16 qc] #[.int .u16 n0, .int .u16 n1, .int .u16 n2] ([] ++ px ++ qx) G6 A6 n6 c6 K6 (w16.alloc (.cells #[.int .i64 v0, .int .i64 v1, .int .i64 v2, .int .i64 v3, .int .i64 v4, .int .i64 v5] 41))) := HN13.out.below hb17
          have HV17 : Hid ((w16.alloc (.cells #[.int .i64 v0, .int .i64 v1, .int .i64 v2, .int .i64 v3, .int .i64 v4, .int .i64 v5] 41)).heap[w16.heap.size]? = some (.cells #[.int .i64 v0, .int .i64 v1, .int .i64 v2, .int .i64 v3, .int .i64 v4, .int .i64 v5] 41 (0, 0))) := heap_alloc_new w16 _
          have HR717 := Lib.hid ((HR713.out.below hb17).more hb17.size)
          have HR917 := Lib.hid ((HR913.out.below hb17).more hb17.size)
          have HR1317 := Lib.hid ((HR13.out.below hb17).more hb17.size)
          clear r0 r1 l0 m2 p1 p2 hoff hb16 hb17 HK1 HN13 HR713 HR913 HR13
          have b0 : (w16.alloc (.cells #[.int .i64 v0, .int .i64 v1, .int .i64 v2, .int .i64 v3, .int .i64 v4, .int .i64 v5] 41)).cell? ⟨w16.heap.size, 0, none⟩ = some (.int .i64 v0) := cell_of_blk HV17.out rfl
          have r0 : (w16.alloc (.cells #[.int .i64 v0, .int .i64 v1, .int .i64 v2, .int .i64 v3, .int .i64 v4, .int .i64 v5] 41)).cell? ⟨G6, 0, none⟩ = some (.int .i64 2) := cell_of_blk HN17.out.blk rfl
          have r1 : (w16.alloc (.cells #[.int .i64 v0, .int .i64 v1, .int .i64 v2, .int .i64 v3, .int .i64 v4, .int .i64 v5] 41)).cell? ⟨G6, 1, none⟩ = some (.slice A6 n6 c6) := cell_of_blk HN17.out.blk rfl
          have k0 : (w16.alloc (.cells #[.int .i64 v0, .int .i64 v1, .int .i64 v2, .int .i64 v3, .int .i64 v4, .int .i64 v5] 41)).cell? ⟨w.heap.size, 0, none⟩ = some (.int .i64 t0) := cell_of_blk HN17.out.gx.tok rfl
          have l1 : (w16.alloc (.cells #[.int .i64 v0, .int .i64 v1, .int .i64 v2, .int .i64 v3, .int .i64 v4, .int .i64 v5] 41)).cell? ⟨w.heap.size + 1, 1, none⟩ = some (.slice (some ⟨qb, qo, none⟩) 16 qc) := cell_of_blk HN17.out.gx.lst rfl
          have m2 : (w16.alloc (.cells #[.int .i64 v0, .int .i64 v1, .int .i64 v2, .int .i64 v3, .int .i64 v4, .int .i64 v5] 41)).cell? ⟨w.heap.size + 1 + 1, 2, none⟩ = some (.int .u16 n2) := cell_of_blk HN17.out.gx.nums rfl
          have hc2 := HCE.out qx off HQ.out.row.1 HO.out.1
          rw [if_neg HO.out.2.1] at hc2
          have HK2 := Lib.hid (HCHK.out (some ⟨qb, qo, none⟩) 16 qc qx off _ HN17.out HR717.out HR1317.out (HQ.out.at HN17.out.gx.bel) HQ.out.nil HQ.out.byt (by omega) HQ.out.fit)
          obtain ⟨u, hu⟩ : ∃ u, u = check (ls K6) bs qx an nw off := ⟨_, rfl⟩
          rw [← hu] at hc2 HK2
          obtain ⟨⟨u0, u1, u2, u3, u4, u5⟩, ue⟩ := u
          have HC2 := Lib.hid hc2
          clear hc2 hu HCHK HCE
          by_cases hcase : off ≤ n2
          · have hc1 := HC1.out
            rw [if_neg (fun h => by have := (HO.out.2.2 n2).1 h; omega)] at hc1
            simp only [if_true, Prod.mk.injEq, T.mk.injEq] at hc1
            obtain ⟨⟨rfl, rfl, rfl, rfl, rfl, rfl⟩, rfl⟩ := hc1
            have d1 : decide (off ≤ n2) = true := decide_eq_true hcase
            have d2 : decide (n2 < off) = false := decide_eq_false (by omega)
            have d3 : (v0 != v0) = false := bne_self_eq_false _
            clear hcase HC1
            go_wp2_with fail
            refine HK2.out.mono ?_
            rintro e19 w19 ⟨rfl, hb19⟩
            unfold T.val T.cells
            simp only
            have hb20 : Below (w16.alloc (.cells #[.int .i64 v0, .int .i64 v1, .int .i64 v2, .int .i64 v3, .int .i64 v4, .int .i64 1] 41)).heap.size (w16.alloc (.cells #[.int .i64 v0, .int .i64 v1, .int .i64 v2, .int .i64 v3, .int .i64 v4, .int .i64 1] 41)) (w19.alloc (.cells #[.int .i64 u0, .int .i64 u1, .int .i64 u2, .int .i64 u3, .int .i64 u4, .int .i64 u5] 41)) := hb19.trans (below_new.mono hb19.size)
            have HN20 : Hid (Nw w #[.int .i64 v0, .int .i64 v1, .int .i64 v2, .int .i64 v3, .int .i64 v4, .int .i64 t5] #[.slice (some ⟨pb, po, none⟩) 16 pc, .slice (some ⟨qb, qo, none⟩) 16 qc] #[.int .u16 n0, .int .u16 n1, .int .u16 n2] ([] ++ px ++ qx) G6 A6 n6 c6 K6 (w19.alloc (.cells #[.int .i64 u0, .int .i64 u1, .int .i64 u2, .int .i64 u3, .int .i64 u4, .int .i64 u5] 41))) := HN17.out.below hb20
            have HR920 := Lib.hid ((HR917.out.below hb20).more hb20.size)
            have l0 : (w19.alloc (.cells #[.int .i64 u0, .int .i64 u1, .int .i64 u2, .int .i64 u3, .int .i64 u4, .int .i64 u5] 41)).cell? ⟨w.heap.size + 1, 0, none⟩ = some (.slice (some ⟨pb, po, none⟩) 16 pc) := cell_of_blk HN20.out.gx.lst rfl
            have l1' : (w19.alloc (.cells #[.int .i64 u0, .int .i64 u1, .int .i64 u2, .int .i64 u3, .int .i64 u4, .int .i64 u5] 41)).cell? ⟨w.heap.size + 1, 1, none⟩ = some (.slice (some ⟨qb, qo, none⟩) 16 qc) := cell_of_blk HN20.out.gx.lst rfl
            clear hb19 hb20 HK2 r0 r1 k0 l1 m2 d1 d2 b0
            by_cases heq : ansT kk px at_ = ansT kk qx at_
            · have hc2 := HC2.out
              rw [if_pos heq] at hc2
              injection hc2 with hc3 hc4
              subst hc4
              have HEQ := Lib.hid heq
              have HS20 := Lib.hid (same_any (some ⟨pb, po, none⟩) (some ⟨qb, qo, none⟩) 16 pc 16 qc _ _ px qx (w19.alloc (.cells #[.int .i64 u0, .int .i64 u1, .int .i64 u2, .int .i64 u3, .int .i64 u4, .int .i64 u5] 41)) (by omega) (by omega) (HP.out.at HN20.out.gx.bel) (HQ.out.at HN20.out.gx.bel))
              clear hc3 heq HC2
              go_wp2_with fail
              refine HS20.out.mono ?_
              rintro e21 w21 ⟨rfl, q21, hq21⟩
              have HN21 := Lib.hid (HN20.out.below (below_eq hq21))
              have HR921 := Lib.hid ((HR920.out.below (below_eq hq21)).more (below_eq hq21).size)
              clear hq21 HS20 l0 l1'
              by_cases hpq : px = qx
              · rw [decide_eq_true hpq]
                go_wp2
                go_ret
                exact ⟨rfl, HN21.out.gx.bel⟩
              · rw [decide_eq_false hpq]
                have HCL := Lib.hid (clash_any A9 (some ⟨pb, po, none⟩) (some ⟨qb, qo, none⟩) 32 c9 16 pc 16 qc kk px qx at_ w21 HR921.out HF9.out.1 (by omega) HKL.out.2 (HP.out.at HN21.out.gx.bel) HP.out.nil (by omega) HP.out.byt (HQ.out.at HN21.out.gx.bel) HQ.out.nil (by omega) HQ.out.byt (by have := HATR.out.2; omega) HEQ.out)
                clear hpq
                go_wp2_with (first
                  | ((with_reducible show wpList _ _ _ _ _ _); (refine wpList_load_row rfl 47 (.tmp 4) rfl (w.heap.size + 1) rfl 47 #[.slice (some ⟨pb, po, none⟩) 16 pc, .slice (some ⟨qb, qo, none⟩) 16 qc] (0, 0) _ HN21.out.gx.lst Tryd.underlying47 rfl infoL ?_)))
                refine HCL.out.mono ?_
                rintro e22 w22 ⟨rfl, hb22⟩
                have HB22 := Lib.hid (HN21.out.below hb22).gx.bel
                clear hb22
                go_wp2
                go_ret
                exact ⟨rfl, HB22.out⟩
            · have hc2 := HC2.out
              rw [if_neg heq] at hc2
              injection hc2 with hc3 hc4
              subst hc4
              clear hc3 heq HC2
              go_wp2
              go_ret
              exact ⟨rfl, HN20.out.gx.bel⟩
          · have hc1 := HC1.out
            rw [if_pos ((HO.out.2.2 n2).2 (by omega))] at hc1
            simp only [T.zero, Prod.mk.injEq, T.mk.injEq] at hc1
            obtain ⟨⟨rfl, rfl, rfl, rfl, rfl, rfl⟩, rfl⟩ := hc1
            have d1 : decide (off ≤ n2) = false := decide_eq_false hcase
            have d2 : decide (n2 < off) = true := decide_eq_true (by omega)
            clear hcase HC1
            go_wp2_with fail
            refine HK2.out.mono ?_
            rintro e19 w19 ⟨rfl, hb19⟩
            unfold T.val T.cells
            simp only
            have hb20 : Below (w16.alloc (.cells #[.int .i64 0, .int .i64 0, .int .i64 0, .int .i64 0, .int .i64 0, .int .i64 0] 41)).heap.size (w16.alloc (.cells #[.int .i64 0, .int .i64 0, .int .i64 0, .int .i64 0, .int .i64 0, .int .i64 0] 41)) (w19.alloc (.cells #[.int .i64 u0, .int .i64 u1, .int .i64 u2, .int .i64 u3, .int .i64 u4, .int .i64 u5] 41)) := hb19.trans (below_new.mono hb19.size)
            have HN20 : Hid (Nw w #[.int .i64 t0, .int .i64 t1, .int .i64 t2, .int .i64 t3, .int .i64 t4, .int .i64 t5] #[.slice (some ⟨pb, po, none⟩) 16 pc, .slice (some ⟨qb, qo, none⟩) 16 qc] #[.int .u16 n0, .int .u16 n1, .int .u16 n2] ([] ++ px ++ qx) G6 A6 n6 c6 K6 (w19.alloc (.cells #[.int .i64 u0, .int .i64 u1, .int .i64 u2, .int .i64 u3, .int .i64 u4, .int .i64 u5] 41))) := HN17.out.below hb20
            have HR920 := Lib.hid ((HR917.out.below hb20).more hb20.size)
            have l0 : (w19.alloc (.cells #[.int .i64 u0, .int .i64 u1, .int .i64 u2, .int .i64 u3, .int .i64 u4, .int .i64 u5] 41)).cell? ⟨w.heap.size + 1, 0, none⟩ = some (.slice (some ⟨pb, po, none⟩) 16 pc) := cell_of_blk HN20.out.gx.lst rfl
            have l1' : (w19.alloc (.cells #[.int .i64 u0, .int .i64 u1, .int .i64 u2, .int .i64 u3, .int .i64 u4, .int .i64 u5] 41)).cell? ⟨w.heap.size + 1, 1, none⟩ = some (.slice (some ⟨qb, qo, none⟩) 16 qc) := cell_of_blk HN20.out.gx.lst rfl
            clear hb19 hb20 HK2 r0 r1 k0 l1 m2 d1 d2 b0
            by_cases heq : ansT kk px at_ = ansT kk qx at_
            · have hc2 := HC2.out
              rw [if_pos heq] at hc2
              injection hc2 with hc3 hc4
              subst hc4
              have HEQ := Lib.hid heq
              have HS20 := Lib.hid (same_any (some ⟨pb, po, none⟩) (some ⟨qb, qo, none⟩) 16 pc 16 qc _ _ px qx (w19.alloc (.cells #[.int .i64 u0, .int .i64 u1, .int .i64 u2, .int .i64 u3, .int .i64 u4, .int .i64 u5] 41)) (by omega) (by omega) (HP.out.at HN20.out.gx.bel) (HQ.out.at HN20.out.gx.bel))
              clear hc3 heq HC2
              go_wp2_with fail
              refine HS20.out.mono ?_
              rintro e21 w21 ⟨rfl, q21, hq21⟩
              have HN21 := Lib.hid (HN20.out.below (below_eq hq21))
              have HR921 := Lib.hid ((HR920.out.below (below_eq hq21)).more (below_eq hq21).size)
              clear hq21 HS20 l0 l1'
              by_cases hpq : px = qx
              · rw [decide_eq_true hpq]
                go_wp2
                go_ret
                exact ⟨rfl, HN21.out.gx.bel⟩
              · rw [decide_eq_false hpq]
                have HCL := Lib.hid (clash_any A9 (some ⟨pb, po, none⟩) (some ⟨qb, qo, none⟩) 32 c9 16 pc 16 qc kk px qx at_ w21 HR921.out HF9.out.1 (by omega) HKL.out.2 (HP.out.at HN21.out.gx.bel) HP.out.nil (by omega) HP.out.byt (HQ.out.at HN21.out.gx.bel) HQ.out.nil (by omega) HQ.out.byt (by have := HATR.out.2; omega) HEQ.out)
                clear hpq
                go_wp2_with (first
                  | ((with_reducible show wpList _ _ _ _ _ _); (refine wpList_load_row rfl 47 (.tmp 4) rfl (w.heap.size + 1) rfl 47 #[.slice (some ⟨pb, po, none⟩) 16 pc, .slice (some ⟨qb, qo, none⟩) 16 qc] (0, 0) _ HN21.out.gx.lst Tryd.underlying47 rfl infoL ?_)))
                refine HCL.out.mono ?_
                rintro e22 w22 ⟨rfl, hb22⟩
                have HB22 := Lib.hid (HN21.out.below hb22).gx.bel
                clear hb22
                go_wp2
                go_ret
                exact ⟨rfl, HB22.out⟩
            · have hc2 := HC2.out
              rw [if_neg heq] at hc2
              injection hc2 with hc3 hc4
              subst hc4
              clear hc3 heq HC2
              go_wp2
              go_ret
              exact ⟨rfl, HN20.out.gx.bel⟩
        · rw [issue_not (t := ⟨t0, t1, t2, t3, t4, t5⟩) hmay] at hr7 ⊢
          have hn7 : n7 = 0 := by have := hr7.1; simpa using this.symm
          subst hn7
          clear hmay hr7
          go_wp2
          go_ret
          exact ⟨rfl, HN7.out.gx.bel⟩
    · have hd : ((qn : Int) != 16) = true := bne_iff_ne.2 (by omega)
      go_wp2
      go_ret
      exact ⟨rfl, HX1.out.bel⟩
  · have hd : ((pn : Int) != 16) = true := bne_iff_ne.2 (by omega)
    go_wp2
    go_ret
    exact ⟨rfl, HX1.out.bel⟩
end Go.Proofs.YtppbpmmfcoblmaaDoor.Chl
