/- Lemmas that the proof stands on, in build order: GfG. -/
import Derived.Test.YtdhlbcbgbmgcjaaJ51c2dda
/- Layer 15 (graph), mathematics: the links gone through both ways, those of one stop; a part that spreads from stop to stop; no program's text is named here. -/
namespace Go.Proofs.Ytdhlbcbgbmgcjaa.Gf
open Go.RowKit Ge

/-- Two lists in strict order that hold the same are one. -/
theorem asc_one {α : Type} {R : α → α → Prop} (has : ∀ a b, R a b → ¬ R b a) : ∀ {l m : List α}, l.Pairwise R → m.Pairwise R → (∀ x, x ∈ l ↔ x ∈ m) → l = m
  | [], [], _, _, _ => rfl
  | [], b :: u, _, _, h => by have := (h b).2 List.mem_cons_self; cases this
  | a :: t, [], _, _, h => by have := (h a).1 List.mem_cons_self; cases this
  | a :: t, b :: u, h1, h2, h => by
    obtain ⟨p1, q1⟩ := List.pairwise_cons.1 h1
    obtain ⟨p2, q2⟩ := List.pairwise_cons.1 h2
    have hab : a = b := Classical.byContradiction fun hne => by
      have ha := (List.mem_cons.1 ((h a).1 List.mem_cons_self)).resolve_left hne
      have hb := (List.mem_cons.1 ((h b).2 List.mem_cons_self)).resolve_left (fun e => hne e.symm)
      exact has _ _ (p1 b hb) (p2 a ha)
    subst hab
    have hirr : ∀ x, ¬ R x x := fun x hx => has x x hx hx
    rw [asc_one has q1 q2 fun x => ⟨fun hx => ((List.mem_cons.1 ((h x).1 (List.mem_cons_of_mem _ hx))).resolve_left fun e => hirr a (by subst e; exact p1 _ hx)),
      fun hx => ((List.mem_cons.1 ((h x).2 (List.mem_cons_of_mem _ hx))).resolve_left fun e => hirr a (by subst e; exact p2 _ hx))⟩]
/-- A link the other way round. -/
def sw3 (l : L3) : L3 := (l.2.1, l.1, l.2.2)
def wys (L : List L3) : List L3 := L.flatMap fun l => [l, sw3 l]
theorem wys_snoc (L : List L3) (l : L3) : wys (L ++ [l]) = wys L ++ [l] ++ [sw3 l] := by unfold wys; simp
theorem wys_len (L : List L3) : (wys L).length = 2 * L.length := by
  unfold wys
  induction L with
  | nil => rfl
  | cons a t ih => rw [List.flatMap_cons, List.length_append, ih]; simp; omega
theorem mem_wys {L : List L3} {x : L3} : x ∈ wys L ↔ x ∈ L ∨ sw3 x ∈ L := by
  unfold wys
  rw [List.mem_flatMap]
  constructor
  · rintro ⟨l, hl, hx⟩
    rcases List.mem_cons.1 hx with rfl | hx
    · exact .inl hl
    · obtain rfl := List.mem_singleton.1 hx
      exact .inr hl
  · rintro (h | h)
    · exact ⟨x, h, List.mem_cons_self⟩
    · exact ⟨_, h, List.mem_cons_of_mem _ (List.mem_singleton.2 rfl)⟩
/-- The links of one stop. -/
def pick (s : Int) (L : List L3) : List L3 := (wys L).filter fun l => decide (l.1 = s)
theorem mem_pick {s : Int} {L : List L3} {x : L3} : x ∈ pick s L ↔ (x ∈ L ∨ sw3 x ∈ L) ∧ x.1 = s := by
  unfold pick
  rw [List.mem_filter, mem_wys]
  simp
def bt (a b : L3) : Prop := a.1 < b.1 ∨ (a.1 = b.1 ∧ a.2.1 < b.2.1)
theorem lks_pair {n : Nat} {L : List L3} (h : LksOk n L) : L.Pairwise bt := by
  have step : ∀ i (h0 : i < L.length) (h1 : i + 1 < L.length), bt (L[i]) (L[i + 1]) := fun i h0 h1 => by
    obtain ⟨q, hq, -, -, -, -, -, h6⟩ := h (i + 1) h1
    obtain ⟨k, hk, h7⟩ := h6 (by omega)
    rw [List.getElem?_eq_getElem h1] at hq
    rw [Nat.add_sub_cancel, List.getElem?_eq_getElem h0] at hk
    injection hq with hq
    injection hk with hk
    rw [hq, hk]
    exact h7
  rw [List.pairwise_iff_getElem]
  intro i j hi hj hij
  obtain ⟨d, rfl⟩ : ∃ d, j = i + d + 1 := ⟨j - i - 1, by omega⟩
  clear hij
  induction d with
  | zero => exact step i hi hj
  | succ d ih =>
    have h1 := ih (by omega)
    have h2 := step (i + d + 1) (by omega) hj
    unfold bt at h1 h2 ⊢
    have e : i + (d + 1) + 1 = i + d + 1 + 1 := by omega
    simp only [e]
    omega
theorem pick_cons (s : Int) (l : L3) (t : List L3) : pick s (l :: t) = (if l.1 = s then [l] else []) ++ (if l.2.1 = s then [sw3 l] else []) ++ pick s t := by
  unfold pick wys
  rw [List.flatMap_cons, List.filter_append]
  congr 1
  by_cases h1 : l.1 = s <;> by_cases h2 : l.2.1 = s <;> simp [sw3, h1, h2]
theorem pick_pair {s : Int} : ∀ {L : List L3}, (∀ l ∈ L, l.1 < l.2.1) → L.Pairwise bt → (pick s L).Pairwise (fun a b => a.2.1 < b.2.1)
  | [], _, _ => .nil
  | l :: t, h, hp => by
    obtain ⟨p1, p2⟩ := List.pairwise_cons.1 hp
    have ih := pick_pair (s := s) (fun k hk => h k (List.mem_cons_of_mem _ hk)) p2
    have hl := h l List.mem_cons_self
    rw [pick_cons, List.pairwise_append]
    refine ⟨?_, ih, ?_⟩
    · by_cases h1 : l.1 = s <;> by_cases h2 : l.2.1 = s
      · omega
      · simp [h1, h2]
      · simp [h1, h2]
      · simp [h1, h2]
    · intro x hx y hy
      have hx2 : (x = l ∧ l.1 = s) ∨ (x = sw3 l ∧ l.2.1 = s) := by
        rcases List.mem_append.1 hx with hx | hx
        · split at hx
          · next h1 => exact .inl ⟨List.mem_singleton.1 hx, h1⟩
          · cases hx
        · split at hx
          · next h1 => exact .inr ⟨List.mem_singleton.1 hx, h1⟩
          · cases hx
      obtain ⟨hy1, hy2⟩ := mem_pick.1 hy
      rcases hy1 with hy1 | hy1
      · have a1 := h y (List.mem_cons_of_mem _ hy1)
        have a2 := p1 y hy1
        unfold bt at a2
        rcases hx2 with ⟨rfl, e⟩ | ⟨rfl, e⟩
        · omega
        · show l.1 < y.2.1
          omega
      · have a1 := h (sw3 y) (List.mem_cons_of_mem _ hy1)
        have a2 := p1 (sw3 y) hy1
        unfold bt at a2
        unfold sw3 at a1 a2
        simp only at a1 a2
        rcases hx2 with ⟨rfl, e⟩ | ⟨rfl, e⟩
        · omega
        · show l.1 < y.2.1
          omega
theorem nearK_pair (L : List L3) (s : Int) (k : Nat) : (nearK L s k).Pairwise (fun a b => a.2.1 < b.2.1) := by
  induction k with
  | zero => exact .nil
  | succ k ih =>
    rw [nearK, List.pairwise_append]
    refine ⟨ih, ?_, ?_⟩
    · split
      · exact .nil
      · exact List.pairwise_singleton _ _
    · intro x hx y hy
      split at hy
      · cases hy
      · obtain rfl := List.mem_singleton.1 hy
        obtain ⟨i, hi, -, rfl⟩ := mem_nearK.1 hx
        show ((i : Nat) : Int) < ((k : Nat) : Int)
        omega
theorem wt_is {a b : Int} : ∀ {L : List L3}, (∀ l ∈ L, l.1 < l.2.1) → Asc L → ∀ l ∈ L, joins a b l = true → wt L a b = l.2.2
  | [], _, _, l, hl, _ => by cases hl
  | k :: t, h, ha, l, hl, hj => by
    rw [wt]
    by_cases hk : joins a b k = true
    · rw [if_pos hk]
      rcases List.mem_cons.1 hl with rfl | hl
      · rfl
      · have h1 := h k List.mem_cons_self
        have h2 := h l (List.mem_cons_of_mem _ hl)
        refine absurd ?_ (ha.1 l hl)
        rcases joins_iff.1 hj with ⟨a1, a2⟩ | ⟨a1, a2⟩ <;> rcases joins_iff.1 hk with ⟨b1, b2⟩ | ⟨b1, b2⟩ <;> omega
    · rw [if_neg hk]
      rcases List.mem_cons.1 hl with rfl | hl
      · exact absurd hj hk
      · exact wt_is (fun x hx => h x (List.mem_cons_of_mem _ hx)) ha.2 l hl hj
/-- They are the links to its neighbours. -/
theorem near_pick {N : Nt} (h : Valid N) (s : Int) : pick s N.lk = nearL N s := by
  have hlk := fun l hl => link_at h (l := l) hl
  have hlt : ∀ l ∈ N.lk, l.1 < l.2.1 := fun l hl => (hlk l hl).2.1
  have hasc := asc_of h.lk
  refine asc_one (R := fun a b : L3 => a.2.1 < b.2.1) (fun a b h1 h2 => by omega) (pick_pair hlt (lks_pair h.lk)) (nearK_pair _ _ _) fun x => ?_
  unfold nearL
  rw [mem_pick, mem_nearK]
  constructor
  · rintro ⟨hx, rfl⟩
    obtain ⟨a, b, wg⟩ := x
    simp only at *
    rcases hx with hx | hx
    · have h1 := hlk _ hx
      simp only at h1
      have hj : joins a b (a, b, wg) = true := joins_iff.2 (.inl ⟨rfl, rfl⟩)
      have hw := wt_is hlt hasc _ hx hj
      simp only at hw
      refine ⟨b.toNat, by omega, ?_, ?_⟩
      · rw [Int.toNat_of_nonneg (by omega), hw]; omega
      · rw [Int.toNat_of_nonneg (by omega), hw]
    · have h1 := hlk _ hx
      unfold sw3 at hx h1
      simp only at hx h1
      have hj : joins a b (b, a, wg) = true := joins_iff.2 (.inr ⟨rfl, rfl⟩)
      have hw := wt_is hlt hasc _ hx hj
      simp only at hw
      refine ⟨b.toNat, by omega, ?_, ?_⟩
      · rw [Int.toNat_of_nonneg (by omega), hw]; omega
      · rw [Int.toNat_of_nonneg (by omega), hw]
  · rintro ⟨i, hi, hw, rfl⟩
    refine ⟨?_, rfl⟩
    obtain ⟨l, hl, hj, hl2⟩ := wt_ex hw
    obtain ⟨a, b, wg⟩ := l
    simp only at hl2
    rcases joins_iff.1 hj with ⟨a1, a2⟩ | ⟨a1, a2⟩
    · simp only at a1 a2
      rw [a1, a2, hl2] at hl
      exact .inl hl
    · simp only at a1 a2
      rw [a1, a2, hl2] at hl
      exact .inr hl

/-- A stop's neighbours. -/
def nxt (L : List L3) (u : Nat) : List Int := (pick (u : Int) L).map (fun l => l.2.1)
theorem nxt_of {N : Nt} (h : Valid N) {u : Nat} {x : Int} (hx : x ∈ nxt N.lk u) : ∃ v w : Nat, x = (v : Int) ∧ v < N.st.length ∧ Pa.E (nlk N.lk) u v w := by
  obtain ⟨l, hl, rfl⟩ := List.mem_map.1 hx
  obtain ⟨hl, e⟩ := mem_pick.1 hl
  obtain ⟨a, b, wg⟩ := l
  simp only at e ⊢
  subst e
  rcases hl with hl | hl
  · have h1 := link_at h hl
    simp only at h1
    refine ⟨b.toNat, wg.toNat, by omega, by omega, .inl ?_⟩
    exact List.mem_map.2 ⟨_, hl, by simp⟩
  · have h1 := link_at h hl
    unfold sw3 at hl h1
    simp only at hl h1
    refine ⟨b.toNat, wg.toNat, by omega, by omega, .inr ?_⟩
    exact List.mem_map.2 ⟨_, hl, by simp⟩
theorem nxt_mem {N : Nt} (h : Valid N) {u v w : Nat} (he : Pa.E (nlk N.lk) u v w) : (v : Int) ∈ nxt N.lk u := by
  unfold nxt
  rcases he with he | he
  · obtain ⟨l, hl, e⟩ := List.mem_map.1 he
    have h1 := link_at h hl
    obtain ⟨a, b, wg⟩ := l
    simp only [Prod.mk.injEq] at e h1
    refine List.mem_map.2 ⟨(a, b, wg), mem_pick.2 ⟨.inl hl, by simp only; omega⟩, by simp only; omega⟩
  · obtain ⟨l, hl, e⟩ := List.mem_map.1 he
    have h1 := link_at h hl
    obtain ⟨a, b, wg⟩ := l
    simp only [Prod.mk.injEq] at e h1
    refine List.mem_map.2 ⟨(b, a, wg), mem_pick.2 ⟨.inr hl, by simp only; omega⟩, by simp only; omega⟩

/-- The parts of all stops whose least one is below t; none of the others. -/
structure Pm (N : Nt) (t : Nat) (xs : List Int) : Prop where
  len : xs.length = N.st.length
  is : ∀ v m, v < N.st.length → Gh.Lst (nlk N.lk) v m → xs[v]? = some (if m < t then (m : Int) else -1)
/-- A part spreads: R is reached from t; the first k have all their neighbours there, of the next one the first j. -/
structure Sp (N : Nt) (t : Nat) (ys : List Int) (R : List Nat) (xs : List Int) (k j : Nat) : Prop where
  pm : Pm N t ys
  no : ys[t]? = some (-1)
  tn : t < N.st.length
  len : xs.length = N.st.length
  nd : R.Nodup
  lt : ∀ v ∈ R, v < N.st.length
  cn : ∀ v ∈ R, Gh.Cn (nlk N.lk) t v
  mem : t ∈ R
  is : ∀ v, v < N.st.length → xs[v]? = if v ∈ R then some (t : Int) else ys[v]?
  cl : ∀ i u, i < k → R[i]? = some u → ∀ v : Nat, (v : Int) ∈ nxt N.lk u → v ∈ R
  cj : ∀ u, R[k]? = some u → ∀ v : Nat, (v : Int) ∈ (nxt N.lk u).take j → v ∈ R
section
variable {N : Nt} {t k j u v : Nat} {xs ys : List Int} {R : List Nat}
theorem Pm.start : Pm N 0 (List.replicate N.st.length (-1)) :=
  ⟨List.length_replicate, fun v m hv _ => by rw [List.getElem?_replicate, if_pos hv, if_neg (by omega)]⟩
theorem Pm.self (h : Pm N t xs) (ht : t < N.st.length) (hx : xs[t]? = some (-1)) : Gh.Lst (nlk N.lk) t t := by
  obtain ⟨m, hm⟩ := Gh.lst_ex (nlk N.lk) t
  have h1 := h.is t m ht hm
  rw [hx] at h1
  injection h1 with h1
  have h2 := hm.2 t (Gh.Cn.refl t)
  split at h1
  · omega
  · have : m = t := by omega
    subst this
    exact hm
theorem Pm.skip (h : Pm N t xs) (ht : t < N.st.length) (hx : xs[t]? ≠ some (-1)) : Pm N (t + 1) xs := by
  refine ⟨h.len, fun v m hv hm => ?_⟩
  rw [h.is v m hv hm]
  by_cases hmt : m < t
  · rw [if_pos hmt, if_pos (by omega)]
  · rw [if_neg hmt, if_neg]
    intro h1
    have : m = t := by omega
    subst this
    have := h.is m m ht hm.self
    rw [if_neg (by omega)] at this
    exact hx this
theorem Sp.start (h : Pm N t xs) (ht : t < N.st.length) (hx : xs[t]? = some (-1)) : Sp N t xs [t] (xs.set t (t : Int)) 0 0 where
  pm := h
  no := hx
  tn := ht
  len := by rw [List.length_set]; exact h.len
  nd := by simp
  lt v hv := by rw [List.mem_singleton.1 hv]; exact ht
  cn v hv := by rw [List.mem_singleton.1 hv]; exact Gh.Cn.refl t
  mem := List.mem_singleton.2 rfl
  is v hv := by
    rw [List.getElem?_set]
    by_cases e : t = v
    · rw [if_pos e, if_pos (by rw [h.len]; exact ht), if_pos (List.mem_singleton.2 e.symm)]
    · rw [if_neg e, if_neg (fun h => e (List.mem_singleton.1 h).symm)]
  cl i u hi := by omega
  cj u _ v hv := by rw [List.take_zero] at hv; cases hv
theorem Sp.le (h : Sp N t ys R xs k j) : R.length ≤ N.st.length := by
  have := h.nd.length_le_of_subset (l₂ := List.range N.st.length) (fun v hv => List.mem_range.2 (h.lt v hv))
  rwa [List.length_range] at this
theorem take_next {l : List Int} {j : Nat} {x : Int} (h : l[j]? = some x) : l.take (j + 1) = l.take j ++ [x] := by rw [List.take_add_one, h]; rfl
/-- A neighbour whose part is told is reached already. -/
theorem Sp.old (h : Sp N t ys R xs k j) (hN : Valid N) (hu : R[k]? = some u) (hv : (nxt N.lk u)[j]? = some (v : Int)) (hx : xs[v]? ≠ some (-1)) : Sp N t ys R xs k (j + 1) := by
  refine { h with cj := fun u' hu' y hy => ?_ }
  rw [hu] at hu'
  injection hu' with hu'
  subst hu'
  rw [take_next hv] at hy
  rcases List.mem_append.1 hy with hy | hy
  · exact h.cj u hu y hy
  · have e := List.mem_singleton.1 hy
    have e : y = v := by omega
    subst e
    refine Classical.byContradiction fun hn => ?_
    obtain ⟨y2, wg, e2, hlt, hE⟩ := nxt_of hN (List.mem_of_getElem? hv)
    have e2 : y = y2 := by omega
    subst e2
    have h1 := h.is y hlt
    rw [if_neg hn] at h1
    rw [h1] at hx
    have hc : Gh.Cn (nlk N.lk) y t := (Gh.Cn.link hE).symm.trans (h.cn u (List.mem_of_getElem? hu)).symm
    have hL := (h.pm.self h.tn h.no).of hc
    have h2 := h.pm.is y t hlt hL
    rw [if_neg (by omega)] at h2
    exact hx h2
/-- One that isn't is reached now. -/
theorem Sp.new (h : Sp N t ys R xs k j) (hN : Valid N) (hu : R[k]? = some u) (hv : (nxt N.lk u)[j]? = some (v : Int)) (hx : xs[v]? = some (-1)) : Sp N t ys (R ++ [v]) (xs.set v (t : Int)) k (j + 1) := by
  obtain ⟨y2, wg, e2, hlt, hE⟩ := nxt_of hN (List.mem_of_getElem? hv)
  have e2 : v = y2 := by omega
  subst e2
  have hn : v ∉ R := fun hm => by
    have h1 := h.is v hlt
    rw [if_pos hm, hx] at h1
    injection h1 with h1
    omega
  have hk : k < R.length := (List.getElem?_eq_some_iff.1 hu).1
  refine ⟨h.pm, h.no, h.tn, by rw [List.length_set]; exact h.len, ?_, ?_, ?_, List.mem_append_left _ h.mem, ?_, ?_, ?_⟩
  · rw [List.nodup_append]
    refine ⟨h.nd, by simp, ?_⟩
    intro a ha b hb e
    rw [List.mem_singleton.1 hb] at e
    subst e
    exact hn ha
  · intro y hy
    rcases List.mem_append.1 hy with hy | hy
    · exact h.lt y hy
    · rw [List.mem_singleton.1 hy]; exact hlt
  · intro y hy
    rcases List.mem_append.1 hy with hy | hy
    · exact h.cn y hy
    · rw [List.mem_singleton.1 hy]; exact (h.cn u (List.mem_of_getElem? hu)).trans (Gh.Cn.link hE)
  · intro y hy
    rw [List.getElem?_set]
    by_cases e : v = y
    · subst e
      rw [if_pos rfl, if_pos (by rw [h.len]; exact hlt), if_pos (List.mem_append_right _ (List.mem_singleton.2 rfl))]
    · rw [if_neg e, h.is y hy]
      by_cases hm : y ∈ R
      · rw [if_pos hm, if_pos (List.mem_append_left _ hm)]
      · rw [if_neg hm, if_neg]
        intro h1
        rcases List.mem_append.1 h1 with h1 | h1
        · exact hm h1
        · exact e (List.mem_singleton.1 h1).symm
  · intro i u' hi hu' y hy
    rw [List.getElem?_append_left (by omega)] at hu'
    exact List.mem_append_left _ (h.cl i u' hi hu' y hy)
  · intro u' hu' y hy
    rw [List.getElem?_append_left hk, hu] at hu'
    injection hu' with hu'
    subst hu'
    rw [take_next hv] at hy
    rcases List.mem_append.1 hy with hy | hy
    · exact List.mem_append_left _ (h.cj u hu y hy)
    · have e := List.mem_singleton.1 hy
      have e : y = v := by omega
      exact List.mem_append_right _ (List.mem_singleton.2 e)
theorem Sp.next (h : Sp N t ys R xs k j) (hu : R[k]? = some u) (hj : (nxt N.lk u).length ≤ j) : Sp N t ys R xs (k + 1) 0 := by
  refine { h with cl := fun i u' hi hu' y hy => ?_, cj := fun u' _ y hy => by rw [List.take_zero] at hy; cases hy }
  rcases Nat.lt_or_ge i k with h1 | h1
  · exact h.cl i u' h1 hu' y hy
  · have : i = k := by omega
    subst this
    rw [hu] at hu'
    injection hu' with hu'
    subst hu'
    exact h.cj u hu y (by rw [List.take_of_length_le hj]; exact hy)
/-- All that are connected with it are reached. -/
theorem Sp.done (h : Sp N t ys R xs k j) (hN : Valid N) (hk : R.length ≤ k) : Pm N (t + 1) xs := by
  have hall : ∀ v, Gh.Cn (nlk N.lk) t v → v ∈ R := by
    rintro v ⟨kk, hw⟩
    induction hw with
    | nil => exact h.mem
    | step _ hE ih =>
      obtain ⟨i, hi, e⟩ := List.getElem_of_mem ih
      exact h.cl i _ (by omega) (by rw [List.getElem?_eq_getElem hi, e]) _ (nxt_mem hN hE)
  have hL := h.pm.self h.tn h.no
  refine ⟨h.len, fun v m hv hm => ?_⟩
  rw [h.is v hv]
  by_cases hr : v ∈ R
  · have e : m = t := hm.one (hL.of (h.cn v hr).symm)
    subst e
    rw [if_pos hr, if_pos (by omega)]
  · rw [if_neg hr, h.pm.is v m hv hm]
    by_cases hmt : m < t
    · rw [if_pos hmt, if_pos (by omega)]
    · rw [if_neg hmt, if_neg]
      intro h1
      have e : m = t := by omega
      subst e
      exact hr (hall v hm.1.symm)
theorem Pm.all (h : Pm N N.st.length xs) (hN : Valid N) : xs = (partsT N).map (fun m : Nat => (m : Int)) := by
  refine List.ext_getElem? fun v => ?_
  rcases Nat.lt_or_ge v N.st.length with hv | hv
  · have hL := parts_lst hN hv
    rw [h.is v _ hv hL, List.getElem?_map, parts_at hv]
    have h1 := hL.2 v (Gh.Cn.refl v)
    rw [if_pos (by omega)]
    rfl
  · rw [List.getElem?_eq_none (by rw [h.len]; omega), List.getElem?_eq_none (by rw [List.length_map, parts_len]; omega)]
end
end Go.Proofs.Ytdhlbcbgbmgcjaa.Gf
