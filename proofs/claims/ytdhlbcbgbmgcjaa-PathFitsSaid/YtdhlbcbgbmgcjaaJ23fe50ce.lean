/- Lemmas that the proof stands on, in build order: PdM. -/
import Derived.Test.YtdhlbcbgbmgcjaaJ12ec2814
import Derived.Test.YtdhlbcbgbmgcjaaJ22c0f468
/- Layer 17 (path), mathematics: distances by a heap of what is reached, whatever is stale left in it. -/
namespace Go.Proofs.Ytdhlbcbgbmgcjaa.Pt
open Go.RowKit Rec Ints Ge Gf Pa

def gx (xs : List Int) (v : Nat) : Int := xs.getD v (-1)
theorem gx_at {xs : List Int} {v : Nat} (h : v < xs.length) : xs[v]? = some (gx xs v) := by
  unfold gx
  rw [List.getD_eq_getElem?_getD, List.getElem?_eq_getElem h]
  rfl
theorem gx_lt {xs : List Int} {v : Nat} (h : 0 ≤ gx xs v) : v < xs.length := by
  rcases Nat.lt_or_ge v xs.length with h1 | h1
  · exact h1
  · unfold gx at h
    rw [List.getD_eq_getElem?_getD, List.getElem?_eq_none h1] at h
    simp at h
theorem gx_set {xs : List Int} {b v : Nat} {y : Int} (h : b < xs.length) : gx (xs.set b y) v = if v = b then y else gx xs v := getD_set h
def deg (N : Nt) (v : Nat) : Nat := (pick (v : Int) N.lk).length
def rest (N : Nt) (D : Nat → Bool) : Nat := row (fun v => if D v = true then 0 else deg N v) N.st.length
theorem row_upd {g h : Nat → Nat} {u : Nat} : ∀ {k : Nat}, u < k → (∀ j, j < k → j ≠ u → g j = h j) → h u = 0 → row g k = row h k + g u
  | 0, hu, _, _ => absurd hu (Nat.not_lt_zero _)
  | k + 1, hu, he, h0 => by
    rw [row, row]
    by_cases e : u = k
    · subst e
      rw [row_congr (h := h) (fun j hj => he j (by omega) (by omega)), h0]
      omega
    · rw [row_upd (k := k) (by omega) (fun j hj => he j (by omega)) h0, he k (by omega) (fun h => e h.symm)]
      omega
theorem rest_all {N : Nt} (h : Valid N) : rest N (fun _ => false) = 2 * N.lk.length := by
  rw [← cnt_all h, cnt_row]
  unfold rest
  refine row_congr fun j _ => ?_
  rw [if_neg (by simp)]
  unfold deg
  rw [near_pick h]
  exact near_row _ _ _
theorem rest_put {N : Nt} {D : Nat → Bool} {u : Nat} (hu : u < N.st.length) (hd : D u = false) : rest N D = rest N (fun x => if x = u then true else D x) + deg N u := by
  unfold rest
  have h1 := row_upd (g := fun v => if D v = true then 0 else deg N v) (h := fun v => if (if v = u then true else D v) = true then 0 else deg N v) hu (fun j _ hj => by simp only [if_neg hj]) (by simp)
  rw [h1]
  simp [hd]
/-- A stop's links, as ways to others. -/
theorem pick_of {N : Nt} (h : Valid N) {u : Nat} {l : L3} (hl : l ∈ pick (u : Int) N.lk) : ∃ b w : Nat, l = ((u : Int), (b : Int), (w : Int)) ∧ b < N.st.length ∧ 1 ≤ w ∧ w < 1048576 ∧ E (nlk N.lk) u b w := by
  obtain ⟨hl, e⟩ := mem_pick.1 hl
  obtain ⟨a, b, wg⟩ := l
  simp only at e ⊢
  subst e
  rcases hl with hl | hl
  · have h1 := link_at h hl
    simp only at h1
    refine ⟨b.toNat, wg.toNat, ?_, by omega, by omega, by omega, .inl (List.mem_map.2 ⟨_, hl, by simp⟩)⟩
    rw [show ((b.toNat : Nat) : Int) = b by omega, show ((wg.toNat : Nat) : Int) = wg by omega]
  · have h1 := link_at h hl
    unfold sw3 at hl h1
    simp only at hl h1
    refine ⟨b.toNat, wg.toNat, ?_, by omega, by omega, by omega, .inr (List.mem_map.2 ⟨_, hl, by simp⟩)⟩
    rw [show ((b.toNat : Nat) : Int) = b by omega, show ((wg.toNat : Nat) : Int) = wg by omega]
theorem pick_has {N : Nt} (h : Valid N) {u b w : Nat} (he : E (nlk N.lk) u b w) : ((u : Int), (b : Int), (w : Int)) ∈ pick (u : Int) N.lk := by
  rcases he with he | he
  · obtain ⟨l, hl, e⟩ := List.mem_map.1 he
    have h1 := link_at h hl
    obtain ⟨a, b', wg⟩ := l
    simp only [Prod.mk.injEq] at e h1
    have : (a, b', wg) = ((u : Int), (b : Int), (w : Int)) := by
      rw [show a = (u : Int) by omega, show b' = (b : Int) by omega, show wg = (w : Int) by omega]
    rw [this] at hl
    exact mem_pick.2 ⟨.inl hl, rfl⟩
  · obtain ⟨l, hl, e⟩ := List.mem_map.1 he
    have h1 := link_at h hl
    obtain ⟨a, b', wg⟩ := l
    simp only [Prod.mk.injEq] at e h1
    have : (a, b', wg) = ((b : Int), (u : Int), (w : Int)) := by
      rw [show a = (b : Int) by omega, show b' = (u : Int) by omega, show wg = (w : Int) by omega]
    rw [this] at hl
    exact mem_pick.2 ⟨.inr hl, rfl⟩

/-- Under way: xs: what is known; H: what is in the heap; D: whose links were followed; T: the weight at which it stands; R: the links of u that are still to be followed; k: how often something came off the heap. -/
structure Dj (N : Nt) (s : Nat) (xs : List Int) (H : List C) (D : Nat → Bool) (T : Int) (u : Nat) (R : List L3) (k : Nat) : Prop where
  len : xs.length = N.st.length
  low : ∀ v, -1 ≤ gx xs v
  sd : ∀ v, 0 ≤ gx xs v → Wk (nlk N.lk) s v (gx xs v).toNat
  src : gx xs s = 0
  heap : ∀ p ∈ H, ∃ v : Nat, p.1 = (v : Int) ∧ v < N.st.length ∧ 0 ≤ gx xs v ∧ gx xs v ≤ p.2 ∧ T ≤ p.2 ∧ p.2 ≤ ((k : Int) + 1) * 1048576
  nod : H.Nodup
  pend : ∀ v : Nat, 0 ≤ gx xs v → D v = false → ((v : Int), gx xs v) ∈ H
  gone : ∀ v, D v = true → 0 ≤ gx xs v ∧ gx xs v ≤ T
  fresh : ∀ v : Nat, D v = true → ∀ p ∈ H, p.1 = (v : Int) → gx xs v < p.2
  rel : ∀ a b w : Nat, D a = true → E (nlk N.lk) a b w → (0 ≤ gx xs b ∧ gx xs b ≤ gx xs a + w) ∨ (a = u ∧ ((a : Int), (b : Int), (w : Int)) ∈ R)
  cur : R ≠ [] → D u = true ∧ gx xs u = T
  sub : ∀ l ∈ R, l ∈ pick (u : Int) N.lk
  top : 0 ≤ T ∧ T ≤ (k : Int) * 1048576
  meas : k + H.length + rest N D + R.length ≤ 1 + 2 * N.lk.length
section
variable {N : Nt} {s u v k b : Nat} {xs : List Int} {H H' : List C} {D : Nat → Bool} {T : Int} {R : List L3} {p : C} {l : L3}
theorem Dj.start (hN : Valid N) (hs : s < N.st.length) : Dj N s ((List.replicate N.st.length (-1)).set s 0) [((s : Int), 0)] (fun _ => false) 0 0 [] 0 := by
  have hl : s < (List.replicate N.st.length (-1 : Int)).length := by simpa using hs
  have hg : ∀ v, gx ((List.replicate N.st.length (-1)).set s 0) v = if v = s then 0 else -1 := fun v => by
    rw [gx_set hl]
    by_cases e : v = s
    · rw [if_pos e, if_pos e]
    · rw [if_neg e, if_neg e]
      unfold gx
      rw [List.getD_eq_getElem?_getD, List.getElem?_replicate]
      split <;> rfl
  have hg2 : ∀ v, 0 ≤ gx ((List.replicate N.st.length (-1)).set s 0) v → v = s := fun v hv => by
    rw [hg] at hv
    by_cases e : v = s
    · exact e
    · rw [if_neg e] at hv; omega
  have h0 : gx ((List.replicate N.st.length (-1)).set s 0) s = 0 := by rw [hg, if_pos rfl]
  refine ⟨by simp, fun v => ?_, fun v hv => ?_, h0, fun p hp => ?_, by simp, fun v hv _ => ?_, fun v h => (by cases h), fun v h => (by cases h), fun a b w h => (by cases h), fun h => absurd rfl h, fun l hl => (by cases hl), by simp, ?_⟩
  · rw [hg]; split <;> omega
  · obtain rfl := hg2 v hv
    rw [h0]
    exact .nil
  · obtain rfl := List.mem_singleton.1 hp
    exact ⟨s, rfl, hs, by rw [h0]; exact Int.le_refl _, by rw [h0]; exact Int.le_refl _, Int.le_refl _, by simp⟩
  · obtain rfl := hg2 v hv
    rw [h0]
    exact List.mem_singleton.2 rfl
  · rw [rest_all hN]
    simp
theorem Dj.lt (h : Dj N s xs H D T u R k) (hv : 0 ≤ gx xs v) : v < N.st.length := by rw [← h.len]; exact gx_lt hv
theorem Dj.few (h : Dj N s xs H D T u R k) (hN : Valid N) : H.length ≤ 32769 ∧ k ≤ 32769 := by
  have := h.meas
  have := hN.nl
  omega
theorem Dj.at_ (h : Dj N s xs H D T u R k) (hp : H.Perm (p :: H')) : ∃ v : Nat, p.1 = (v : Int) ∧ v < N.st.length ∧ 0 ≤ gx xs v ∧ gx xs v ≤ p.2 ∧ T ≤ p.2 ∧ p.2 ≤ ((k : Int) + 1) * 1048576 := h.heap p (hp.mem_iff.2 List.mem_cons_self)
theorem Dj.stale (h : Dj N s xs H D T u [] k) (hp : H.Perm (p :: H')) (hm : ∀ q ∈ H', decide (q.2 < p.2) = false) (hv : p.1 = (v : Int)) (hst : gx xs v < p.2) : Dj N s xs H' D p.2 v [] (k + 1) := by
  have hin : ∀ q, q ∈ H' → q ∈ H := fun q hq => hp.mem_iff.2 (List.mem_cons_of_mem _ hq)
  obtain ⟨v', e1, h1, h2, h3, h4, h5⟩ := h.at_ hp
  have ht := h.top
  have hlen := hp.length_eq
  rw [List.length_cons] at hlen
  refine ⟨h.len, h.low, h.sd, h.src, fun q hq => ?_, (List.nodup_cons.1 (hp.nodup_iff.1 h.nod)).2, fun a ha hd => ?_, fun a ha => ?_, fun a ha q hq => h.fresh a ha q (hin q hq), fun a b w ha he => ?_, fun h => absurd rfl h, fun l hl => (by cases hl), ⟨by omega, by push_cast; omega⟩, ?_⟩
  · obtain ⟨a, e, a1, a2, a3, a4, a5⟩ := h.heap q (hin q hq)
    have := of_decide_eq_false (hm q hq)
    exact ⟨a, e, a1, a2, a3, by omega, by push_cast; omega⟩
  · rcases List.mem_cons.1 (hp.mem_iff.1 (h.pend a ha hd)) with e | e
    · subst e
      simp only at hv hst
      have : a = v := by omega
      subst this
      omega
    · exact e
  · have := h.gone a ha
    omega
  · rcases h.rel a b w ha he with h1 | ⟨_, h1⟩
    · exact .inl h1
    · cases h1
  · have := h.meas
    simp only [List.length_nil] at *
    omega
theorem Dj.take (h : Dj N s xs H D T u [] k) (hN : Valid N) (hp : H.Perm (p :: H')) (hm : ∀ q ∈ H', decide (q.2 < p.2) = false) (hv : p.1 = (v : Int)) (hst : ¬ gx xs v < p.2) : Dj N s xs H' (fun x => if x = v then true else D x) p.2 v (pick (v : Int) N.lk) (k + 1) ∧ gx xs v = p.2 := by
  have hin : ∀ q, q ∈ H' → q ∈ H := fun q hq => hp.mem_iff.2 (List.mem_cons_of_mem _ hq)
  obtain ⟨v', e1, h1, h2, h3, h4, h5⟩ := h.at_ hp
  obtain rfl : v' = v := by omega
  have he : gx xs v' = p.2 := by omega
  have hpe : p = ((v' : Int), gx xs v') := by rw [he]; exact Prod.ext hv rfl
  have hnd := List.nodup_cons.1 (hp.nodup_iff.1 h.nod)
  have hdv : D v' = false := by
    cases hd : D v' with
    | false => rfl
    | true =>
      have := h.fresh v' hd p (hp.mem_iff.2 List.mem_cons_self) hv
      omega
  have ht := h.top
  have hlen := hp.length_eq
  rw [List.length_cons] at hlen
  have hD : ∀ a, (if a = v' then true else D a) = true → a = v' ∨ D a = true := fun a ha => by
    by_cases e : a = v'
    · exact .inl e
    · rw [if_neg e] at ha; exact .inr ha
  refine ⟨⟨h.len, h.low, h.sd, h.src, fun q hq => ?_, hnd.2, fun a ha hd => ?_, fun a ha => ?_, fun a ha q hq hqa => ?_, fun a b w ha he' => ?_, fun _ => ⟨by simp, he⟩, fun l hl => hl, ⟨by omega, by push_cast; omega⟩, ?_⟩, he⟩
  · obtain ⟨a, e, a1, a2, a3, a4, a5⟩ := h.heap q (hin q hq)
    have := of_decide_eq_false (hm q hq)
    exact ⟨a, e, a1, a2, a3, by omega, by push_cast; omega⟩
  · by_cases e : a = v'
    · rw [if_pos e] at hd; cases hd
    · rw [if_neg e] at hd
      rcases List.mem_cons.1 (hp.mem_iff.1 (h.pend a ha hd)) with e2 | e2
      · rw [hpe] at e2
        have := (Prod.mk.inj e2).1
        exact absurd (by omega) e
      · exact e2
  · rcases hD a ha with rfl | ha
    · omega
    · have := h.gone a ha; omega
  · rcases hD a ha with rfl | ha
    · have := of_decide_eq_false (hm q hq)
      rcases Int.lt_or_le (gx xs a) q.2 with h9 | h9
      · exact h9
      · have e9 : q = p := by
          rw [hpe]
          exact Prod.ext hqa (by show q.2 = gx xs a; omega)
        exact absurd (e9 ▸ hq) hnd.1
    · exact h.fresh a ha q (hin q hq) hqa
  · rcases hD a ha with rfl | ha
    · exact .inr ⟨rfl, pick_has hN he'⟩
    · rcases h.rel a b w ha he' with h1 | ⟨_, h1⟩
      · exact .inl h1
      · cases h1
  · have h9 := h.meas
    rw [rest_put h1 hdv] at h9
    unfold deg at h9
    simp only [List.length_nil] at h9
    omega
theorem Dj.keep (h : Dj N s xs H D T u (l :: R) k) (hb : l.2.1 = (b : Int)) (hno : ¬ (gx xs b = -1 ∨ T + l.2.2 < gx xs b)) : Dj N s xs H D T u R k := by
  have hc := h.cur (by simp)
  refine { h with rel := fun a b' w ha he => ?_, cur := fun _ => hc, sub := fun x hx => h.sub x (List.mem_cons_of_mem _ hx), meas := by have := h.meas; rw [List.length_cons] at this; omega }
  rcases h.rel a b' w ha he with h1 | ⟨e, h1⟩
  · exact .inl h1
  · rcases List.mem_cons.1 h1 with h2 | h2
    · subst h2 e
      simp only at hb hno
      have hlow := h.low b
      obtain rfl : b' = b := by omega
      exact .inl ⟨by omega, by rw [hc.2]; omega⟩
    · exact .inr ⟨e, h2⟩
theorem Dj.less (h : Dj N s xs H D T u (l :: R) k) (hN : Valid N) (hb : l.2.1 = (b : Int)) (hyes : gx xs b = -1 ∨ T + l.2.2 < gx xs b) : Dj N s (xs.set b (T + l.2.2)) (((b : Int), T + l.2.2) :: H) D T u R k := by
  have hc := h.cur (by simp)
  obtain ⟨b', w, rfl, hbn, hw1, hw2, he⟩ := pick_of hN (h.sub l List.mem_cons_self)
  simp only at hb hyes ⊢
  obtain rfl : b' = b := by omega
  have hbl : b' < xs.length := by rw [h.len]; exact hbn
  have ht := h.top
  have hg : ∀ v, gx (xs.set b' (T + (w : Int))) v = if v = b' then T + (w : Int) else gx xs v := fun v => gx_set hbl
  have hDb : D b' = false := by
    cases hd : D b' with
    | false => rfl
    | true => have := h.gone b' hd; omega
  have hne : ∀ a, D a = true → a ≠ b' := fun a ha e => by rw [e, hDb] at ha; cases ha
  have hold : ∀ q ∈ H, q.1 = (b' : Int) → T + (w : Int) < gx xs b' ∧ gx xs b' ≤ q.2 := fun q hq e => by
    obtain ⟨a, e1, a1, a2, a3, a4, a5⟩ := h.heap q hq
    obtain rfl : a = b' := by omega
    omega
  refine ⟨by rw [List.length_set]; exact h.len, fun v => ?_, fun v hv => ?_, ?_, fun q hq => ?_, ?_, fun v hv hd => ?_, fun v hv => ?_, fun v hv q hq hqv => ?_, fun a c w' ha he' => ?_, fun _ => ⟨hc.1, ?_⟩, fun x hx => h.sub x (List.mem_cons_of_mem _ hx), h.top, ?_⟩
  · rw [hg]; split
    · omega
    · exact h.low v
  · rw [hg] at hv ⊢
    by_cases e : v = b'
    · subst e
      rw [if_pos rfl]
      have hwk := h.sd u (by rw [hc.2]; omega)
      rw [hc.2] at hwk
      have e2 : (T + (w : Int)).toNat = T.toNat + w := by omega
      rw [e2]
      exact .step hwk he
    · rw [if_neg e] at hv ⊢
      exact h.sd v hv
  · rw [hg]
    have hs := h.src
    by_cases e : s = b'
    · subst e
      rcases hyes with h1 | h1 <;> omega
    · rw [if_neg e]; exact hs
  · rcases List.mem_cons.1 hq with hq0 | hq1
    · subst hq0
      exact ⟨b', rfl, hbn, by rw [hg, if_pos rfl]; omega, by rw [hg, if_pos rfl]; exact Int.le_refl _, by show T ≤ T + (w : Int); omega, by show T + (w : Int) ≤ _; omega⟩
    · obtain ⟨a, e1, a1, a2, a3, a4, a5⟩ := h.heap q hq1
      refine ⟨a, e1, a1, ?_, ?_, a4, a5⟩
      · rw [hg]; split <;> omega
      · rw [hg]
        by_cases e : a = b'
        · subst e
          have := hold q hq1 e1
          rw [if_pos rfl]
          omega
        · rw [if_neg e]; exact a3
  · refine List.nodup_cons.2 ⟨fun hm => ?_, h.nod⟩
    have := hold _ hm rfl
    simp only at this
    omega
  · rw [hg] at hv ⊢
    by_cases e : v = b'
    · subst e
      rw [if_pos rfl]
      exact List.mem_cons_self
    · rw [if_neg e] at hv ⊢
      exact List.mem_cons_of_mem _ (h.pend v hv hd)
  · rw [hg, if_neg (hne v hv)]
    exact h.gone v hv
  · rw [hg, if_neg (hne v hv)]
    rcases List.mem_cons.1 hq with rfl | hq
    · simp only at hqv
      exact absurd (by omega) (hne v hv)
    · exact h.fresh v hv q hq hqv
  · rw [hg, hg, if_neg (hne a ha)]
    rcases h.rel a c w' ha he' with h1 | ⟨e, h1⟩
    · refine .inl ?_
      by_cases e : c = b'
      · subst e
        rw [if_pos rfl]
        rcases hyes with h2 | h2 <;> omega
      · rw [if_neg e]; exact h1
    · rcases List.mem_cons.1 h1 with h2 | h2
      · injection h2 with h3 h4
        injection h4 with h4 h5
        obtain rfl : c = b' := by omega
        obtain rfl : a = u := by omega
        rw [if_pos rfl, hc.2]
        exact .inl ⟨by omega, by omega⟩
      · exact .inr ⟨e, h2⟩
  · rw [hg, if_neg (hne u hc.1)]
    exact hc.2
  · have := h.meas
    rw [List.length_cons] at this ⊢
    omega
theorem Dj.done (h : Dj N s xs [] D T u [] k) (hN : Valid N) : xs = farL N s := by
  have hd : ∀ v, 0 ≤ gx xs v → D v = true := fun v hv => by
    cases hd : D v with
    | true => rfl
    | false => exact absurd (h.pend v hv hd) (by simp)
  have hr : ∀ v m, rdZ xs v = some m → 0 ≤ gx xs v ∧ m = (gx xs v).toNat := fun v m hm => by
    unfold rdZ at hm
    by_cases h0 : 0 ≤ xs.getD v (-1)
    · rw [if_pos h0] at hm
      injection hm with hm
      exact ⟨h0, hm.symm⟩
    · rw [if_neg h0] at hm; cases hm
  have hr2 : ∀ v, 0 ≤ gx xs v → rdZ xs v = some (gx xs v).toNat := fun v hv => by
    unfold rdZ
    exact if_pos hv
  have his : Is (nlk N.lk) s (rdZ xs) := by
    refine Is.of_fit ?_ (fun a b w m he hm => ?_) (fun v m hm => ?_)
    · rw [hr2 s (by rw [h.src]; exact Int.le_refl _), h.src]
      rfl
    · obtain ⟨h0, rfl⟩ := hr a m hm
      rcases h.rel a b w (hd a h0) he with h1 | ⟨_, h1⟩
      · exact ⟨_, hr2 b h1.1, by omega⟩
      · cases h1
    · obtain ⟨h0, rfl⟩ := hr v m hm
      exact h.sd v h0
  refine far_rd (V := ((k : Int) + 1) * 1048576 + 1) h.len (fun v => ⟨h.low v, ?_⟩) (funext fun v => his.one (dis_is hN s) v)
  rcases Int.lt_or_le (gx xs v) 0 with h1 | h1
  · have := h.top
    show gx xs v ≤ _
    omega
  · have h2 := h.gone v (hd v h1)
    have := h.top
    show gx xs v ≤ _
    omega
end
end Go.Proofs.Ytdhlbcbgbmgcjaa.Pt
