/- Layer 5 (sample): the iterator steps, as a contract: what each round is asked at, in order. -/
import Derived.Test.YtefnpibikebmdaaSmpR
import Derived.Test.YtefnpibikebmdaaRng
namespace Go.Proofs.Ytefnpibikebmdaa.Smp
open Go.RowKit Var Fld

attribute [local go_sem] Oper.semAt_some

set_option maxRecDepth 100000 in
theorem steps_any (A : Option Addr) (n c : Nat) (w : World) : Calls Try.prog 26 #[.slice A n c] w fun e w' =>
    e = .returned (.func (.func 37) #[] #[.pointer (some ⟨w.heap.size, 0, none⟩)]) ∧ w' = w.alloc (.cells #[.slice A n c] 22) := by
  have hmf : ∀ (fn : Fn) (first cap : Array Value) (w : World), (Instr.makeFunc fn first cap).run Try.prog w = .ok (.func fn first cap) w := fun _ _ _ _ => rfl
  go_enter Try.func26, Try.ntmps26
  go_wp2
  go_ret
  exact ⟨rfl, rfl⟩

/-- A step, as it is handed on. -/
def stepV (a s : S) : Array Value := #[.agg #[.int .i64 (s.t - a.t), .int .i64 (s.x - a.x), .int .i64 (s.y - a.y)]]

theorem near {a s : S} (ha : may a = true ∨ a = zS) (hs : may s = true) : (-1099511627776 ≤ s.t - a.t ∧ s.t - a.t ≤ 1099511627776) ∧ (-67108864 ≤ s.x - a.x ∧ s.x - a.x ≤ 67108864) ∧ (-67108864 ≤ s.y - a.y ∧ s.y - a.y ≤ 67108864) := by
  have h1 := may_iff.1 hs
  have h2 : 0 ≤ a.t ∧ a.t ≤ 1099511627776 ∧ 0 ≤ a.x ∧ a.x < 67108864 ∧ 0 ≤ a.y ∧ a.y < 67108864 := by
    rcases ha with ha | rfl
    · exact may_iff.1 ha
    · unfold zS; simp
  omega

theorem three {w : World} {b : Nat} {s : S} {t : TypeId} (h : w.heap[b]? = some (.cells s.cells t (0, 0))) :
    (w.cell? ⟨b, 0, none⟩ = some (.int .i64 s.t) ∧ w.cell? ⟨b, 1, none⟩ = some (.int .i64 s.x) ∧ w.cell? ⟨b, 2, none⟩ = some (.int .i64 s.y)) ∧ (w.frozen? ⟨b, 0, none⟩ = false ∧ w.frozen? ⟨b, 1, none⟩ = false ∧ w.frozen? ⟨b, 2, none⟩ = false) :=
  ⟨⟨cell_of_blk h rfl, cell_of_blk h rfl, cell_of_blk h rfl⟩, free_of_blk h, free_of_blk h, free_of_blk h⟩

/-- A sample stored over another, cell by cell. -/
theorem sets {w : World} {b : Nat} {a s : S} {t : TypeId} (h : w.heap[b]? = some (.cells a.cells t (0, 0))) :
    ((w.setCell ⟨b, 0, none⟩ (.int .i64 s.t)).cell? ⟨b, 1, none⟩ = some (.int .i64 a.x) ∧ (w.setCell ⟨b, 0, none⟩ (.int .i64 s.t)).frozen? ⟨b, 1, none⟩ = false) ∧
    (((w.setCell ⟨b, 0, none⟩ (.int .i64 s.t)).setCell ⟨b, 1, none⟩ (.int .i64 s.x)).cell? ⟨b, 2, none⟩ = some (.int .i64 a.y) ∧ ((w.setCell ⟨b, 0, none⟩ (.int .i64 s.t)).setCell ⟨b, 1, none⟩ (.int .i64 s.x)).frozen? ⟨b, 2, none⟩ = false) ∧
    (((w.setCell ⟨b, 0, none⟩ (.int .i64 s.t)).setCell ⟨b, 1, none⟩ (.int .i64 s.x)).setCell ⟨b, 2, none⟩ (.int .i64 s.y)).heap[b]? = some (.cells s.cells t (0, 0)) ∧
    Only (fun i => i = b) w (((w.setCell ⟨b, 0, none⟩ (.int .i64 s.t)).setCell ⟨b, 1, none⟩ (.int .i64 s.x)).setCell ⟨b, 2, none⟩ (.int .i64 s.y)) := by
  have h1 := set_blk (j := 0) (u := .int .i64 s.t) h
  have h2 := set_blk (j := 1) (u := .int .i64 s.x) h1
  have h3 := set_blk (j := 2) (u := .int .i64 s.y) h2
  exact ⟨⟨cell_of_blk h1 rfl, free_of_blk h1⟩, ⟨cell_of_blk h2 rfl, free_of_blk h2⟩, h3,
    ((Only.setCell w ⟨b, 0, none⟩ _).trans (Only.setCell _ ⟨b, 1, none⟩ _) (fun _ _ h => h)).trans (Only.setCell _ ⟨b, 2, none⟩ _) (fun _ _ h => h)⟩

set_option maxHeartbeats 1600000 in
set_option maxRecDepth 100000 in
theorem steps_run (m l Bx N : Nat) (A : Option Addr) (n c : Nat) (ss : List S) (J : Nat → World → Prop) (W1 : World) (hn : n ≤ 4398046511104)
    (hmay : ∀ s ∈ ss, may s = true) (hbox : W1.cell? ⟨Bx, 0, none⟩ = some (.slice A n c)) (hrow : ∀ k W, J k W → SRow W N A n ss)
    (hJ : ∀ k W W', J k W → Only (fun i => i = W1.heap.size) W W' → J k W') (hsz : ∀ k W, J k W → W1.heap.size ≤ W.heap.size)
    (hY : ∀ k s W o, ss[k]? = some s → J k W → W1.heap.size < W.heap.size → YieldAt Fence.wide m Try.prog l (stepV (las (ss.take k)) s) (W.alloc o) fun e W' =>
      e = .returned (.bool true) ∧ J (k + 1) W' ∧ ∃ M, Only M (W.alloc o) W' ∧ ¬ M W.heap.size ∧ ¬ M W1.heap.size)
    (h0 : J 0 W1) :
    CallsIn Fence.wide (m + 1) Try.prog 37 #[.func (.yield l) #[] #[], .pointer (some ⟨Bx, 0, none⟩)] W1 fun e W' => (∃ v, e = .returned v) ∧ J n W' := by
  have HN := Lib.hid hn
  have HROW := Lib.hid hrow
  have HJ := Lib.hid hJ
  have HSZ := Lib.hid hsz
  have HY := Lib.hid hY
  have H0 := Lib.hid h0
  have HMAY := Lib.hid hmay
  have HL := Lib.hid (hrow 0 W1 h0).len
  clear hrow hJ hsz hY h0 hmay
  refine callsIn_of_wp Try.func37 rfl trivial ?_ rfl
  simp only [Try.ntmps37, List.size_toArray, List.length_cons, List.length_nil, Nat.reduceAdd, Nat.reduceSub, Array.replicate_succ, Array.replicate_zero, List.push_toArray, List.append_toArray, List.nil_append, List.cons_append]
  have hbox' : (W1.alloc (.cells #[.int .i64 0, .int .i64 0, .int .i64 0] 32)).cell? ⟨Bx, 0, none⟩ = some (.slice A n c) := (((Below.refl W1.heap.size W1).alloc (Nat.le_refl _) _).cell (p := ⟨Bx, 0, none⟩) (World.block_lt_of_cell? W1 _ hbox)).trans hbox
  gi_wp2
  gi_loopw [8] (fun i wr => ∃ k : Nat, k ≤ n ∧ i = .int .i64 (k : Int) ∧ Hid (J k wr) ∧ Hid (wr.heap[W1.heap.size]? = some (.cells (las (ss.take k)).cells 32 (0, 0)))) (fun i _ => n - (intOf i).toNat)
  case atStart =>
    refine ⟨0, Nat.zero_le _, rfl, HJ.out 0 W1 _ H0.out (Only.alloc _ _), ?_⟩
    unfold Hid
    exact heap_alloc_new W1 _
  case round =>
    obtain ⟨k, hk, rfl, HK, HB⟩ := hrel
    by_cases hlt : k < n
    · obtain ⟨b, o, s, rfl, hbl, hs, hok, c0, c1, c2⟩ := (HROW.out k wr HK.out).at hlt
      have hms := HMAY.out s (List.mem_of_getElem? hs)
      have hla := las_may (l := ss.take k) (fun u hu => HMAY.out u (List.mem_of_mem_take hu))
      obtain ⟨⟨n1, n2⟩, ⟨n3, n4⟩, n5, n6⟩ := near hla hms
      have hlt1 : W1.heap.size < wr.heap.size := lt_of_block HB.out
      have HS := Lib.hid hs
      obtain ⟨a, ha⟩ : ∃ a, las (ss.take k) = a := ⟨_, rfl⟩
      rw [ha] at HB n1 n2 n3 n4 n5 n6
      have w1 : IntKind.i64.wrap (s.t - a.t) = s.t - a.t := IntWalk.i64_in _ ⟨by omega, by omega⟩
      have w2 : IntKind.i64.wrap (s.x - a.x) = s.x - a.x := IntWalk.i64_in _ ⟨by omega, by omega⟩
      have w3 : IntKind.i64.wrap (s.y - a.y) = s.y - a.y := IntWalk.i64_in _ ⟨by omega, by omega⟩
      have w4 : IntKind.i64.wrap ((k : Int) + 1) = (k : Int) + 1 := IntWalk.i64_in _ ⟨by omega, by omega⟩
      have HB1 : Hid ((wr.alloc (.cells #[.int .i64 s.t, .int .i64 s.x, .int .i64 s.y] 32)).heap[W1.heap.size]? = some (.cells a.cells 32 (0, 0))) := (Below.heap_alloc wr _ W1.heap.size hlt1).trans HB.out
      obtain ⟨⟨p0, p1, p2⟩, -⟩ := three HB1.out
      obtain ⟨q0, q1, q2⟩ := boxed wr s 32
      have eC : s.cells = #[.int .i64 s.t, .int .i64 s.x, .int .i64 s.y] := rfl
      rw [eC] at q0 q1 q2
      obtain ⟨fn, tmps, assign, body, hy, hR⟩ := HY.out k s wr (.cells #[.int .i64 s.t, .int .i64 s.x, .int .i64 s.y] 32) HS.out HK.out hlt1
      rw [ha] at hy
      unfold stepV at hy
      have HR := Lib.hid hR
      clear hR hms hla n1 n2 n3 n4 n5 n6 hs
      gi_wp2
      refine HR.out.mono ?_
      rintro e W3 ⟨rfl, hJ3, M, hO, hM1, hM2⟩
      have HB3 : Hid (W3.heap[W1.heap.size]? = some (.cells a.cells 32 (0, 0))) := hO.at HB1.out hM2
      have hq3 : W3.heap[wr.heap.size]? = some (.cells s.cells 32 (0, 0)) := hO.at (heap_alloc_new wr _) hM1
      obtain ⟨-, f0, f1, f2⟩ := three HB3.out
      obtain ⟨⟨r0, r1, r2⟩, -⟩ := three hq3
      obtain ⟨⟨g1, e1⟩, ⟨g2, e2⟩, hq4, hO4⟩ := sets (s := s) HB3.out
      obtain ⟨⟨t0, t1, t2⟩, -⟩ := three HB3.out
      have HJ3 := Lib.hid (HJ.out _ _ _ hJ3 hO4)
      have HB4 := Lib.hid hq4
      clear hO hJ3 p0 p1 p2 q0 q1 q2 hy hq3 hq4 hO4
      gi_wp2
      go_roundw
      case rel =>
        refine ⟨k + 1, by omega, by go_num, HJ3.out, ?_⟩
        unfold Hid
        rw [las_take HS.out]
        exact HB4.out
      case measure => simp [intOf]; omega
    · gi_wp2
      go_end0
      have hkn : k = n := by omega
      subst hkn
      exact ⟨⟨_, rfl⟩, HK.out⟩
end Go.Proofs.Ytefnpibikebmdaa.Smp
