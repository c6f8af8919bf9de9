/- Lemmas that the proof stands on, in build order: GfH. -/
import Derived.Test.YtdgaaghkhkklpaaJ360f8329
import Derived.Test.YtdgaaghkhkklpaaJ54d248b
import Derived.Test.YtdgaaghkhkklpaaJ63e688c
/- Layer 15 (graph), the landed program: ways, as a contract: what each round is asked at, in order. -/
namespace Go.Proofs.Ytdgaaghkhkklpaa.Gf
open Go.RowKit Rec Ints Ge

attribute [local go_sem] Oper.semAt_some

set_option maxRecDepth 100000 in
theorem ways_any (ver : Int) (A A' : Option Addr) (n c m c' : Nat) (w : World) : Calls Try.prog 39 #[.agg #[.int .i64 ver, .slice A n c, .slice A' m c']] w fun e w' =>
    e = .returned (.func (.func 61) #[] #[.pointer (some ⟨w.heap.size, 0, none⟩)]) ∧ w' = w.alloc (.cells #[.int .i64 ver, .slice A n c, .slice A' m c'] 25) := by
  have hmf : ∀ (fn : Fn) (first cap : Array Value) (w : World), (Instr.makeFunc fn first cap).run Try.prog w = .ok (.func fn first cap) w := fun _ _ _ _ => rfl
  go_enter Try.func39, Try.ntmps39
  go_wp2
  go_ret
  exact ⟨rfl, rfl⟩

/-- A link, as it is handed on. -/
def lkV (l : L3) : Array Value := #[.agg #[.int .i64 l.1, .int .i64 l.2.1, .int .i64 l.2.2]]
theorem wys_at : ∀ {L : List L3} {k : Nat} {l : L3}, L[k]? = some l → (wys L)[2 * k]? = some l ∧ (wys L)[2 * k + 1]? = some (sw3 l)
  | [], k, l, h => by simp at h
  | a :: t, 0, l, h => by
    have e : a = l := by simpa using h
    subst e
    exact ⟨rfl, rfl⟩
  | a :: t, k + 1, l, h => by
    have h1 : t[k]? = some l := by simpa using h
    exact wys_at (L := t) (k := k) h1

set_option maxHeartbeats 1600000 in
set_option maxRecDepth 100000 in
theorem ways_run {σ : Type} (mf l Bx B : Nat) (ver : Int) (A A' : Option Addr) (n c m c' : Nat) (L : List L3) (J : σ → Nat → World → Prop) (Q : σ → World → Nat → Prop) (W1 : World) (hm : m ≤ 1048576)
    (hbox : W1.heap[Bx]? = some (.cells #[.int .i64 ver, .slice A n c, .slice A' m c'] 25 (0, 0))) (hrow : ∀ x k W, J x k W → RRow lkS W B A' m L)
    (hJ : ∀ x k W o, J x k W → J x k (W.alloc o) ∧ Q x (W.alloc o) W.heap.size) (hQ : ∀ x k W, J x k W → Q x W W.heap.size)
    (hY : ∀ x k s W q, (wys L)[k]? = some s → J x k W → Q x W q → YieldAt Fence.wide mf Try.prog l (lkV s) W fun e W' => e = .returned (.bool true) ∧ (∃ x', J x' (k + 1) W') ∧ ∀ o, W.heap[q]? = some o → W'.heap[q]? = some o)
    (x0 : σ) (h0 : J x0 0 W1) :
    CallsIn Fence.wide (mf + 1) Try.prog 61 #[.func (.yield l) #[] #[], .pointer (some ⟨Bx, 0, none⟩)] W1 fun e W' => (∃ v, e = .returned v) ∧ ∃ x, J x (2 * m) W' := by
  have HROW := Lib.hid hrow
  have HJ := Lib.hid hJ
  have HQ := Lib.hid hQ
  have HY := Lib.hid hY
  have H0 := Lib.hid h0
  have z2 : W1.cell? ⟨Bx, 2, none⟩ = some (.slice A' m c') := cell_of_blk hbox rfl
  clear hrow hJ hQ hY h0 hbox
  refine callsIn_of_wp Try.func61 rfl trivial ?_ rfl
  simp only [Try.ntmps61, List.size_toArray, List.length_cons, List.length_nil, Nat.reduceAdd, Nat.reduceSub, Array.replicate_succ, Array.replicate_zero, List.push_toArray, List.append_toArray, List.nil_append, List.cons_append]
  gi_wp2
  gi_loopw [4, 8] (fun _ i wr => ∃ (k : Nat) (x : σ), k ≤ m ∧ i = .int .i64 (k : Int) ∧ Hid (J x (2 * k) wr)) (fun _ i _ => m - (intOf i).toNat)
  case atStart => exact ⟨0, x0, Nat.zero_le _, rfl, H0⟩
  case round =>
    obtain ⟨k, x, hk, rfl, HK⟩ := hrel
    by_cases hlt : k < m
    · obtain ⟨b, o, p, rfl, hbl, hs, c0, c1, c2⟩ := lk_at (HROW.out x _ wr HK.out) hlt
      obtain ⟨la, lb, lw⟩ := p
      simp only at c0 c1 c2
      obtain ⟨hs1, hs2⟩ := wys_at hs
      have HS1 := Lib.hid hs1
      have HS2 := Lib.hid hs2
      have w4 : IntKind.i64.wrap ((k : Int) + 1) = (k : Int) + 1 := IntWalk.i64_in _ ⟨by omega, by omega⟩
      obtain ⟨hJA, hQA⟩ := HJ.out x _ wr (.cells #[.int .i64 la, .int .i64 lb, .int .i64 lw] 50) HK.out
      have hbx := heap_alloc_new wr (.cells #[.int .i64 la, .int .i64 lb, .int .i64 lw] 50)
      obtain ⟨fn, tmps, assign, body, hy, hR⟩ := HY.out x _ _ _ _ HS1.out hJA hQA
      unfold lkV at hy
      simp only at hy
      have HR := Lib.hid hR
      have HBX := Lib.hid hbx
      have q0 : (wr.alloc (.cells #[.int .i64 la, .int .i64 lb, .int .i64 lw] 50)).cell? ⟨wr.heap.size, 0, none⟩ = some (.int .i64 la) := cell_of_blk hbx rfl
      have q1 : (wr.alloc (.cells #[.int .i64 la, .int .i64 lb, .int .i64 lw] 50)).cell? ⟨wr.heap.size, 0 + 1, none⟩ = some (.int .i64 lb) := cell_of_blk hbx rfl
      have q2 : (wr.alloc (.cells #[.int .i64 la, .int .i64 lb, .int .i64 lw] 50)).cell? ⟨wr.heap.size, 0 + 2, none⟩ = some (.int .i64 lw) := cell_of_blk hbx rfl
      clear hR hs hs1 hs2 hJA hQA hbx
      gi_wp2
      refine HR.out.mono ?_
      rintro e W3 ⟨rfl, ⟨x3, hJ3⟩, hq3⟩
      have hb3 := hq3 _ HBX.out
      have HJ3 := Lib.hid hJ3
      obtain ⟨fn2, tmps2, assign2, body2, hy2, hR2⟩ := HY.out x3 _ _ _ _ HS2.out hJ3 (HQ.out _ _ _ hJ3)
      unfold lkV sw3 at hy2
      simp only at hy2
      have HR2 := Lib.hid hR2
      have r0 : W3.cell? ⟨wr.heap.size, 0, none⟩ = some (.int .i64 la) := cell_of_blk hb3 rfl
      have r1 : W3.cell? ⟨wr.heap.size, 1, none⟩ = some (.int .i64 lb) := cell_of_blk hb3 rfl
      have r2 : W3.cell? ⟨wr.heap.size, 2, none⟩ = some (.int .i64 lw) := cell_of_blk hb3 rfl
      clear hR2 hJ3 hq3 hb3 q0 q1 q2 hy
      gi_wp2
      refine HR2.out.mono ?_
      rintro e W4 ⟨rfl, ⟨x4, hJ4⟩, -⟩
      have HJ4 : Hid (J x4 (2 * (k + 1)) W4) := hJ4
      clear hJ4
      gi_wp2
      go_roundw
      case rel => exact ⟨k + 1, x4, by omega, by go_num, HJ4⟩
      case measure => simp [intOf]; omega
    · gi_wp2
      go_end0
      have hkn : k = m := by omega
      subst hkn
      exact ⟨⟨_, rfl⟩, x, HK.out⟩
end Go.Proofs.Ytdgaaghkhkklpaa.Gf
