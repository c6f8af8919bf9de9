/- Layer 5 (sample): the iterator read, as a contract: what each round is asked at, and how it ends. -/
import Derived.Test.YtefnpibikebmdaaSmpN
import Derived.Test.YtefnpibikebmdaaSmpR
import Derived.Test.YtefnpibikebmdaaRng
namespace Go.Proofs.Ytefnpibikebmdaa.Smp
open Go.RowKit Var Fld

attribute [local go_sem] Oper.semAt_some

set_option maxRecDepth 100000 in
theorem read_any (g : Nat) (n : Int) (w : World) : Calls Try.prog 21 #[.pointer (some ⟨g, 0, none⟩), .int .i64 n] w fun e w' =>
    e = .returned (.func (.func 33) #[] #[.pointer (some ⟨w.heap.size + 1, 0, none⟩), .pointer (some ⟨w.heap.size, 0, none⟩)]) ∧ w' = (w.alloc (.cells #[.pointer (some ⟨g, 0, none⟩)] 46)).alloc (.cells #[.int .i64 n] 3) := by
  have hmf : ∀ (fn : Fn) (first cap : Array Value) (w : World), (Instr.makeFunc fn first cap).run Try.prog w = .ok (.func fn first cap) w := fun _ _ _ _ => rfl
  go_enter Try.func21, Try.ntmps21
  go_wp2
  go_ret
  exact ⟨rfl, rfl⟩

/-- What a round is handed. -/
def tripV (xs : List Int) : Array Value := #[.agg #[.int .i64 (tT xs), .int .i64 (tX xs), .int .i64 (tY xs)]]

/-- How the iterator ends. -/
def ReadEnd (g lo n : Nat) (bs : List Int) (J : List S → World → Prop) (Jx : World → Prop) (e : Ending) (w : World) : Prop :=
  (∃ v, e = .returned v) ∧ ((∃ acc xs, tk n [] bs = (acc, xs, 0) ∧ good acc = true ∧ J acc w ∧ Rdl w g lo xs 0) ∨ (∃ acc xs er, er ≠ 0 ∧ (tk n [] bs).2.2 = er ∧ J acc w ∧ Rdl w g lo xs er) ∨ ((tk n [] bs).2.2 = 2 ∧ Jx w))

set_option maxHeartbeats 1600000 in
set_option maxRecDepth 100000 in
theorem read_run (m l Bn Br g lo n : Nat) (bs : List Int) (J : List S → World → Prop) (Jx : World → Prop) (W1 : World) (hn : n ≤ 2048)
    (hbn : W1.cell? ⟨Bn, 0, none⟩ = some (.int .i64 (n : Int))) (hbr : ∀ acc W, J acc W → W.cell? ⟨Br, 0, none⟩ = some (.pointer (some ⟨g, 0, none⟩)))
    (hJ : ∀ acc W W', J acc W → Only (fun i => i = g) W W' → J acc W')
    (hY : ∀ acc xs W, acc.length < n → good acc = true → (∀ x ∈ xs, 0 ≤ x ∧ x ≤ 255) → (r3 xs).2 = 0 → J acc W → Rdl W g lo (r3 xs).1 0 → YieldAt Fence.wide m Try.prog l (tripV xs) W fun e W' =>
      (e = .returned (.bool true) ∧ okp acc (nx acc xs) = true ∧ J (acc ++ [nx acc xs]) W' ∧ Rdl W' g lo (r3 xs).1 0) ∨ (e = .returned (.bool false) ∧ okp acc (nx acc xs) = false ∧ Jx W'))
    (h0 : J [] W1) (hr0 : Rdl W1 g lo bs 0) :
    CallsIn Fence.wide (m + 1) Try.prog 33 #[.func (.yield l) #[] #[], .pointer (some ⟨Bn, 0, none⟩), .pointer (some ⟨Br, 0, none⟩)] W1 (ReadEnd g lo n bs J Jx) := by
  have HBR := Lib.hid hbr
  have HJ := Lib.hid hJ
  have HY := Lib.hid hY
  have H0 := Lib.hid h0
  have HR0 := Lib.hid hr0
  clear hbr hJ hY h0 hr0
  refine callsIn_of_wp Try.func33 rfl trivial ?_ rfl
  simp only [Try.ntmps33, List.size_toArray, List.length_cons, List.length_nil, Nat.reduceAdd, Nat.reduceSub, Array.replicate_succ, Array.replicate_zero, List.push_toArray, List.append_toArray, List.nil_append, List.cons_append]
  gi_wp2
  gi_loopw [6] (fun i wr => ∃ (k : Nat) (acc : List S) (xs : List Int), k ≤ n ∧ i = .int .i64 (k : Int) ∧ acc.length = k ∧ Hid (good acc = true) ∧ Hid (J acc wr) ∧ Hid (Rdl wr g lo xs 0) ∧ Hid (tk (n - k) acc xs = tk n [] bs)) (fun i _ => n - (intOf i).toNat)
  case atStart => exact ⟨0, [], bs, Nat.zero_le _, rfl, rfl, rfl, H0.out, HR0.out, rfl⟩
  case round =>
    obtain ⟨k, acc, xs, hk, rfl, hacc, HG, HK, HR, HT⟩ := hrel
    by_cases hlt : k < n
    · have hkw : IntKind.i64.wrap ((k : Int) + 1) = (k : Int) + 1 := IntWalk.i64_in _ ⟨by omega, by omega⟩
      have htk : tk (n - k) acc xs = if (r3 xs).2 ≠ 0 then ([], [], (r3 xs).2) else if okp acc (nx acc xs) = true then tk (n - (k + 1)) (acc ++ [nx acc xs]) (r3 xs).1 else ([], [], 2) := by
        rw [show n - k = (n - (k + 1)) + 1 by omega]
        rfl
      have HTK := Lib.hid (HT.out.symm.trans htk)
      clear htk HT
      have hgl : g < wr.heap.size := HR.out.lt
      have hfb : g ≠ wr.heap.size := by omega
      have HA : Hid ((wr.alloc (.cells #[.int .i64 0, .int .i64 0, .int .i64 0] 52)).heap[wr.heap.size]? = some (.cells #[.int .i64 0, .int .i64 0, .int .i64 0] 52 (0, 0))) := heap_alloc_new wr _
      have HOA : Hid (Only (fun i => i = g) wr (wr.alloc (.cells #[.int .i64 0, .int .i64 0, .int .i64 0] 52))) := Only.alloc _ _
      have q0 := HBR.out acc _ (HJ.out acc _ _ HK.out HOA.out)
      have HRA := Lib.hid (HR.out.below ((Below.refl _ _).alloc (Nat.le_refl _) (.cells #[.int .i64 0, .int .i64 0, .int .i64 0] 52)))
      gi_wp2_with fail
      obtain ⟨fb, hfbe⟩ : ∃ fb, wr.heap.size = fb := ⟨_, rfl⟩
      rw [hfbe] at HA hfb hgl
      generalize wr.alloc (.cells #[.int .i64 0, .int .i64 0, .int .i64 0] 52) = wA at HA HOA q0 HRA ⊢
      rw [hfbe]
      refine ⟨trivial, ?_⟩
      refine (callsIn_wide.2 (stepT g lo xs _ HRA.out)).mono ?_
      rintro e5 w5 ⟨rfl, hr5, ho5⟩
      have hb5 := ho5.at HA.out (fun h => hfb h.symm)
      have c5 : w5.cell? ⟨fb, 0, none⟩ = some (.int .i64 0) := cell_of_blk hb5 rfl
      have f5 : w5.frozen? ⟨fb, 0, none⟩ = false := free_of_blk hb5
      have HB5 : Hid ((w5.setCell ⟨fb, 0, none⟩ (.int .i64 (tT xs))).heap[fb]? = some (.cells #[.int .i64 (tT xs), .int .i64 0, .int .i64 0] 52 (0, 0))) := set_blk (j := 0) (u := .int .i64 (tT xs)) hb5
      have HR5 : Hid (Rdl (w5.setCell ⟨fb, 0, none⟩ (.int .i64 (tT xs))) g lo (r1 xs).1 (r1 xs).2) := hr5.only (Only.setCell w5 ⟨fb, 0, none⟩ _) (fun k _ h1 h2 => by have h2 : k = fb := h2; omega)
      have HO5 : Hid (Only (fun i => i = g) wr (w5.setCell ⟨fb, 0, none⟩ (.int .i64 (tT xs)))) := (HOA.out.trans ho5 (fun _ _ h => h)).trans (Only.setCell w5 ⟨fb, 0, none⟩ _) (fun i h1 h2 => by have h2 : i = fb := h2; omega)
      have q5 := HBR.out acc _ (HJ.out acc _ _ HK.out HO5.out)
      clear hr5 ho5 hb5
      gi_wp2_with fail
      refine ⟨trivial, ?_⟩
      refine (callsIn_wide.2 (stepX g lo xs _ HR5.out)).mono ?_
      rintro e6 w6 ⟨rfl, hr6, ho6⟩
      have hb6 := ho6.at HB5.out (fun h => hfb h.symm)
      have c6 : w6.cell? ⟨fb, 1, none⟩ = some (.int .i64 0) := cell_of_blk hb6 rfl
      have f6 : w6.frozen? ⟨fb, 1, none⟩ = false := free_of_blk hb6
      have HB6 : Hid ((w6.setCell ⟨fb, 1, none⟩ (.int .i64 (tX xs))).heap[fb]? = some (.cells #[.int .i64 (tT xs), .int .i64 (tX xs), .int .i64 0] 52 (0, 0))) := set_blk (j := 1) (u := .int .i64 (tX xs)) hb6
      have HR6 : Hid (Rdl (w6.setCell ⟨fb, 1, none⟩ (.int .i64 (tX xs))) g lo (r2 xs).1 (r2 xs).2) := hr6.only (Only.setCell w6 ⟨fb, 1, none⟩ _) (fun k _ h1 h2 => by have h2 : k = fb := h2; omega)
      have HO6 : Hid (Only (fun i => i = g) wr (w6.setCell ⟨fb, 1, none⟩ (.int .i64 (tX xs)))) := (HO5.out.trans ho6 (fun _ _ h => h)).trans (Only.setCell w6 ⟨fb, 1, none⟩ _) (fun i h1 h2 => by have h2 : i = fb := h2; omega)
      have q6 := HBR.out acc _ (HJ.out acc _ _ HK.out HO6.out)
      clear hr6 ho6 hb6
      clear q0 q5 c5 f5 HB5 HR5 HO5 HRA HOA HA
      gi_wp2_with fail
      refine ⟨trivial, ?_⟩
      refine (callsIn_wide.2 (stepY g lo xs _ HR6.out)).mono ?_
      rintro e7 w7 ⟨rfl, hr7, ho7⟩
      have hb7 := ho7.at HB6.out (fun h => hfb h.symm)
      have c7 : w7.cell? ⟨fb, 2, none⟩ = some (.int .i64 0) := cell_of_blk hb7 rfl
      have f7 : w7.frozen? ⟨fb, 2, none⟩ = false := free_of_blk hb7
      have HB7 : Hid ((w7.setCell ⟨fb, 2, none⟩ (.int .i64 (tY xs))).heap[fb]? = some (.cells #[.int .i64 (tT xs), .int .i64 (tX xs), .int .i64 (tY xs)] 52 (0, 0))) := set_blk (j := 2) (u := .int .i64 (tY xs)) hb7
      have HR7 : Hid (Rdl (w7.setCell ⟨fb, 2, none⟩ (.int .i64 (tY xs))) g lo (r3 xs).1 (r3 xs).2) := hr7.only (Only.setCell w7 ⟨fb, 2, none⟩ _) (fun k _ h1 h2 => by have h2 : k = fb := h2; omega)
      have HO7 : Hid (Only (fun i => i = g) wr (w7.setCell ⟨fb, 2, none⟩ (.int .i64 (tY xs)))) := (HO6.out.trans ho7 (fun _ _ h => h)).trans (Only.setCell w7 ⟨fb, 2, none⟩ _) (fun i h1 h2 => by have h2 : i = fb := h2; omega)
      have q7 := HBR.out acc _ (HJ.out acc _ _ HK.out HO7.out)
      clear hr7 ho7 hb7
      clear q6 c6 f6 HB6 HR6 HO6
      have z0 := cell_of_blk (j := 0) HB7.out rfl
      have z1 := cell_of_blk (j := 1) HB7.out rfl
      have z2 := cell_of_blk (j := 2) HB7.out rfl
      have HJ7 := Lib.hid (HJ.out acc _ _ HK.out HO7.out)
      gi_wp2_with fail
      refine ⟨trivial, ?_⟩
      refine (callsIn_wide.2 (errorR g _ _ _ HR7.out.rdr)).mono ?_
      rintro e8 w8 ⟨rfl, rfl⟩
      by_cases her : (r3 xs).2 = 0
      · have hez : (((r3 xs).2 : Int) == 0) = true := beq_iff_eq.2 (by omega)
        have HER := Lib.hid her
        have htk2 := HTK.out
        rw [if_neg (by rw [her]; simp)] at htk2
        have HTK2 := Lib.hid htk2
        have HR8 := HR7
        rw [her] at HR8
        obtain ⟨fn, tmps, assign, body, hy, hR⟩ := HY.out acc xs _ (by omega) HG.out HR.out.byt her HJ7.out HR8.out
        unfold tripV at hy
        have HRR := Lib.hid hR
        clear hR htk2 her HTK
        gi_wp2
        refine HRR.out.mono ?_
        rintro e9 w9 (⟨rfl, hok, hj9, hr9⟩ | ⟨rfl, hok, hj9⟩)
        · have HJ9 := Lib.hid hj9
          have HR9 := Lib.hid hr9
          have HT9 : Hid (tk (n - (k + 1)) (acc ++ [nx acc xs]) (r3 xs).1 = tk n [] bs) := by
            have := HTK2.out
            rw [if_pos hok] at this
            exact this.symm
          have HG9 := Lib.hid (good_snoc HG.out hok)
          clear hj9 hr9 hok hy z0 z1 z2 q7 c7 f7
          gi_wp2
          go_roundw
          case rel => exact ⟨k + 1, acc ++ [nx acc xs], (r3 xs).1, by omega, by go_num, by simp [hacc], HG9.out, HJ9.out, HR9.out, HT9.out⟩
          case measure => simp [intOf]; omega
        · have HJ9 := Lib.hid hj9
          have HT9 : Hid ((tk n [] bs).2.2 = 2) := by
            have := HTK2.out
            rw [if_neg (by rw [hok]; simp)] at this
            unfold Hid
            rw [this]
          clear hj9 hok hy z0 z1 z2 q7 c7 f7
          gi_wp2
          refine bodyPost_ret (results_none rfl _ _ _) rfl ?_
          exact ⟨⟨_, rfl⟩, .inr (.inr ⟨HT9.out, HJ9.out⟩)⟩
      · have hez : (((r3 xs).2 : Int) == 0) = false := beq_eq_false_iff_ne.2 (by omega)
        have HT9 : Hid ((tk n [] bs).2.2 = (r3 xs).2) := by
          have := HTK.out
          rw [if_pos her] at this
          unfold Hid
          rw [this]
        have HER := Lib.hid her
        clear her HTK
        gi_wp2
        refine ⟨fun _ h => (by cases h), ?_⟩
        gi_wp2
        refine bodyPost_ret (results_none rfl _ _ _) rfl ?_
        exact ⟨⟨_, rfl⟩, .inr (.inl ⟨acc, (r3 xs).1, (r3 xs).2, HER.out, HT9.out, HJ7.out, HR7.out⟩)⟩
    · gi_wp2
      go_end0
      have hkn : k = n := by omega
      subst hkn
      refine ⟨⟨_, rfl⟩, .inl ⟨acc, xs, ?_, HG.out, HK.out, HR.out⟩⟩
      rw [← HT.out, Nat.sub_self]
      rfl
end Go.Proofs.Ytefnpibikebmdaa.Smp
