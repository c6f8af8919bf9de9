/- Lemmas that the proof stands on, in build order: Ent. -/
import Derived.Maps.OwnRows
import Derived.WideKeyEntry
import Derived.WalkKit
/- Over any program: 'm[k] = append(m[k], v)' as the translation lays it (an entry of a map that is written behind other work): the entry, the append and the entry's store, as steps of a region that draws its order; what leaves a map of slices as it was. -/
namespace Go.Proofs.Ytdhlbcbgbmgcjaa.Ent
open Go Go.RowKit Go.WideMaps Go.Maps Go.ChangeMaps Go.MapKept Go.ChangeShapes
open Go.WideElems (Fit rd rg pl elemAt findIdx_born findIdx_arr modify_last set_self)

section
variable {H : Type} {P : Program} {w : World} {t k e : TypeId} {b : Nat} {es : Array MapEntry} {clock : Nat} {R : Value → Option (DataW H × List MemPlace)}

theorem rowElem_same {w w' : World} {base : Nat} {e : TypeId} {q : IntKind} {v : Value} {zs : List Int} (h : w.ownsInts base e q v zs) (h' : w'.ownsInts base e q v zs) : rowElem (H := H) w' base e q v = rowElem w base e q v := by
  rw [rowElem_mk h, rowElem_mk h']
theorem ints_block {w w' : World} {base : Nat} {e : TypeId} {q : IntKind} {v : Value} {zs : List Int} (h : w.ownsInts base e q v zs) (hb : ∀ g, v.ownBlock = some g → w'.heap[g]? = w.heap[g]?) : w'.ownsInts base e q v zs := by
  refine ⟨⟨h.1.1, ?_⟩, h.2⟩
  rcases h.1.2 with h0 | ⟨g, cap, cur, rfl, h1, h2, h3⟩
  · exact .inl h0
  · exact .inr ⟨g, cap, cur, rfl, h1, (hb g rfl).trans h2, h3⟩
/-- What leaves the map's block and the rows of its elements as they were leaves the map as it was. -/
theorem groups_kept {w w' : World} {base : Nat} {q : IntKind} {n : Nat} {D : DataW H} (h : w.ownsGroups P k base e q b n D) (hk : ∀ g, g < w.heap.size → w'.heap[g]? = w.heap[g]?) : w'.ownsGroups P k base e q b n D := by
  obtain ⟨es, clock, hb, F, hs, hD, hbb, hlen, hap⟩ := h
  have own : ∀ v zs, w.ownsInts base e q v zs → w'.ownsInts base e q v zs := fun v zs hv => ints_block hv fun g hg => hk g (hv.1.lt g hg).2
  have hr : ∀ x ∈ es.toList, ∃ zs, w.ownsInts base e q x.val zs := fun x hx => by
    obtain ⟨y, hy⟩ := F.reads x hx
    obtain ⟨_, hy2⟩ := Option.bind_eq_some_iff.1 hy
    obtain ⟨z, hz, _⟩ := Option.map_eq_some_iff.1 hy2.2
    obtain ⟨zs, h1, _⟩ := rowElem_inv hz
    exact ⟨zs, h1⟩
  have hrd : ∀ x ∈ es.toList, ∀ z, rowElem (H := H) w base e q x.val = some z → rowElem (H := H) w' base e q x.val = some z := fun x hx z hz => by
    obtain ⟨zs, h1, _⟩ := rowElem_inv hz
    rw [rowElem_same h1 (own _ _ h1)]
    exact hz
  obtain ⟨F1, hmap, _⟩ := F.stay (R' := rowElem (H := H) w' base e q) hrd
  refine ⟨es, clock, (hk b (Array.getElem?_eq_some_iff.1 hb).1).trans hb, F1, hs, by rw [hmap]; exact hD, hbb, fun x hx zs hz => ?_, hap⟩
  obtain ⟨zs0, h0⟩ := hr x hx
  rw [(own _ _ h0).unique hz |>.symm]
  exact hlen x hx zs0 h0
theorem groups_lt {base : Nat} {q : IntKind} {n : Nat} {D : DataW H} (h : w.ownsGroups P k base e q b n D) : b < w.heap.size := by
  obtain ⟨es, clock, hb, _⟩ := h
  exact (Array.getElem?_eq_some_iff.1 hb).1

/-- An entry, as it is laid in one world; its store in another one: what a store by its key would do. -/
theorem entry_two (K : KeyLaw P k) {e : TypeId} (ht : P.underlying t = some (.map k e)) {z : Value} (hz : ∀ u : World, (zeroValue e).run P u = .ok z u) (hb : w.heap[b]? = some (.map es clock)) (F : Fit P k R es clock)
    {key : Value} {kl : Lit} (hkey : keyOf P k key = some kl) :
    ∃ (v0 : Value) (st : Nat) (es1 : Array MapEntry) (clock1 : Nat), (Instr.mapEntry t (.map (some b)) key).run P w = .ok (.tuple #[v0, goInt st]) (setBlock w b (.map es1 clock1)) ∧ (Instr.lookup t (.map (some b)) key false).run P w = .ok v0 w ∧
      ∀ (w1 w2 : World) (val : Value), w1.heap[b]? = some (.map es clock) → w2.heap[b]? = some (.map es1 clock1) → ∃ es' clock', (Instr.entryStore t (.map (some b)) (goInt st) val).run P w2 = .ok () (setBlock w2 b (.map es' clock')) ∧
        (Instr.mapUpdate t (.map (some b)) key val).run P w1 = .ok () (setBlock w1 b (.map es' clock')) := by
  obtain ⟨s1, s2, s3⟩ := F.stamped
  rcases K.find w hkey es.toList F.keys with ⟨h1, h2⟩ | ⟨j, e0, h1, h2, h3⟩
  · refine ⟨z, clock, es.push ⟨key, z, clock⟩, clock + 1, ?_, ?_, fun w1 w2 val hw1 hw2 => ⟨es.push ⟨key, val, clock⟩, clock + 1, ?_, ?_⟩⟩
    · simp [Instr.mapEntry, run_underlying ht, MapKept.run_getObj_map hb, K.check w false hkey, h1, hz, MapKept.run_setObj_map _ hb, Result.andThen, setBlock]
    · simp [Instr.lookup, run_underlying ht, MapKept.run_getObj_map hb, K.check w _ hkey, h1, hz, Result.andThen]
    · have hidx : (es.push ⟨key, z, clock⟩).findIdx? (fun e => ((e.born : Nat) : Int) == ((clock : Nat) : Int)) = some es.size := by
        rw [findIdx_arr]
        have := findIdx_born (l := (es.push ⟨key, z, clock⟩).toList) (j := es.size) (e0 := ⟨key, z, clock⟩) (by
          simp only [Array.toList_push, List.map_append, List.map_cons, List.map_nil]
          refine List.nodup_append.2 ⟨s2, by simp, fun a ha c hc e1 => ?_⟩
          simp only [List.mem_singleton] at hc
          obtain ⟨x, hx, rfl⟩ := List.mem_map.1 ha
          have := s1 x hx
          omega) (by simp)
        exact this
      have hmod : (es.push ⟨key, z, clock⟩).modify es.size (fun e => { e with val := val }) = es.push ⟨key, val, clock⟩ := by
        apply Array.ext'
        rw [Array.toList_modify, Array.toList_push, Array.toList_push, ← Array.length_toList, modify_last]
      simp [Instr.entryStore, MapKept.run_getObj_map hw2, asInt, asIntOf, goInt, hidx, hmod, MapKept.run_setObj_map _ hw2, Result.andThen, setBlock]
    · rcases K.find w1 hkey es.toList F.keys with ⟨g1, g2⟩ | ⟨j', e', g1, g2, g3⟩
      · simp [Instr.mapUpdate, run_underlying ht, MapKept.run_getObj_map hw1, K.check w1 false hkey, g1, MapKept.run_setObj_map _ hw1, Result.andThen, setBlock]
      · exact absurd g3 (h2 e' (List.mem_of_getElem? g2))
  · have hj : es[j]? = some e0 := by simpa using h2
    have hsame : es.modify j (fun e => { e with key := key }) = es := by
      apply Array.ext'
      rw [Array.toList_modify, modify_eq_set _ _ _ _ h2]
      have : ({ e0 with key := key } : MapEntry) = e0 := by rw [← h3]
      rw [this]
      exact set_self _ _ _ h2
    refine ⟨e0.val, e0.born, es, clock, ?_, ?_, fun w1 w2 val hw1 hw2 => ⟨es.modify j (fun e' => { e' with key := key, val := val }), clock, ?_, ?_⟩⟩
    · simp [Instr.mapEntry, run_underlying ht, MapKept.run_getObj_map hb, K.check w false hkey, h1, hj, h3, K.stays w hkey, hsame, MapKept.run_setObj_map _ hb, Result.andThen, setBlock]
    · simp [Instr.lookup, run_underlying ht, MapKept.run_getObj_map hb, K.check w _ hkey, h1, Result.andThen]
    · have hidx : es.findIdx? (fun e => ((e.born : Nat) : Int) == ((e0.born : Nat) : Int)) = some j := by
        rw [findIdx_arr]
        exact findIdx_born s2 h2
      have hmod : es.modify j (fun e => { e with val := val }) = es.modify j (fun e' => { e' with key := key, val := val }) := by
        apply Array.ext'
        rw [Array.toList_modify, Array.toList_modify, modify_eq_set _ _ _ _ h2, modify_eq_set _ _ _ _ h2, ← h3]
      simp [Instr.entryStore, MapKept.run_getObj_map hw2, asInt, asIntOf, goInt, hidx, hmod, MapKept.run_setObj_map _ hw2, Result.andThen, setBlock]
    · rcases K.find w1 hkey es.toList F.keys with ⟨g1, g2⟩ | ⟨j', e', g1, g2, g3⟩
      · exact absurd h3 (g2 e0 (List.mem_of_getElem? h2))
      · obtain rfl : j' = j := by
          have a1 : (es.toList.map (·.key))[j']? = some key := by rw [List.getElem?_map, g2]; simp [g3]
          have a2 : (es.toList.map (·.key))[j]? = some key := by rw [List.getElem?_map, h2]; simp [h3]
          have l1 := (List.getElem?_eq_some_iff.1 a1).1
          exact (List.getElem?_inj l1 s3).1 (a1.trans a2.symm)
        obtain rfl : e' = e0 := Option.some.inj (g2.symm.trans h2)
        simp [Instr.mapUpdate, run_underlying ht, MapKept.run_getObj_map hw1, K.check w1 false hkey, g1, hj, h3, K.stays w1 hkey, MapKept.run_setObj_map _ hw1, Result.andThen, setBlock]

theorem grown_set {w : World} {o : Obj} : w.grownBy (setBlock w b o) (some b) :=
  ⟨rfl, rfl, rfl, by simp [setBlock], fun i _ hne => by
    unfold setBlock
    simp only
    rw [Array.getElem?_setIfInBounds_ne (fun e => hne (by rw [e]))]⟩
theorem set_set {w : World} {o o' : Obj} : setBlock (setBlock w b o) b o' = setBlock w b o' := by
  unfold setBlock
  simp
/-- The way back of an entry: whatever is done to the row of its value and to new blocks alone, its store leaves a map of slices. -/
def Back (w1 : World) (P : Program) (t k : TypeId) (base : Nat) (e : TypeId) (q : IntKind) (b n : Nat) (D : DataW H) (kl : Lit) (v : Value) (st : Nat) : Prop :=
  ∀ (w2 : World) (v' : Value) (zs' : List Int), w1.grownBy w2 v.ownBlock → w2.ownsInts base e q v' zs' → zs'.length ≤ n + 1 → (v'.ownBlock = v.ownBlock ∨ ∃ g, v'.ownBlock = some g ∧ w1.heap.size ≤ g) →
    ∃ w3, (Instr.entryStore t (.map (some b)) (goInt st) v').run P w2 = .ok () w3 ∧ w3.ownsGroups P k base e q b (n + 1) (D.put kl (rowDatum q v' zs')) ∧ w2.grownBy w3 (some b)
theorem entry_at {base n : Nat} {q : IntKind} {D : DataW H} {E : TypeId} {key : Value} {kl : Lit} (h : w.ownsGroups P k base e q b n D) (K : KeyLaw P k) (ht : P.underlying t = some (.map k E)) (hz : ∀ u : World, (zeroValue E).run P u = .ok (.slice none 0 0) u) (hn : n < maxLen) (hkey : keyOf P k key = some kl) :
    ∃ v zs, ∃ st : Nat, ∃ w1, (Instr.mapEntry t (.map (some b)) key).run P w = .ok (.tuple #[v, goInt st]) w1 ∧ D.atKey kl .nil = rowDatum q v zs ∧ w1.ownsInts base e q v zs ∧ zs.length ≤ n ∧ w.grownBy w1 (some b) ∧ Back w1 P t k base e q b n D kl v st := by
  obtain ⟨v, zs, hrun, hat, hoi, hl, hback⟩ := h.at (Keyed.of_law K) ht (hz w) hn hkey
  obtain ⟨es, clock, hb, F, hs, hD, hbb, hlen, hap⟩ := h
  obtain ⟨v0, st, es1, clock1, hrun1, hrun0, hstore⟩ := entry_two K ht hz hb F hkey
  have hv : v0 = v := by
    rw [hrun] at hrun0
    cases hrun0
    rfl
  subst hv
  have hne : ∀ g, v0.ownBlock = some g → g ≠ b := fun g hg hgb => by
    have := (hoi.1.lt g hg).1
    omega
  have hbs : b < w.heap.size := (Array.getElem?_eq_some_iff.1 hb).1
  have hb1 := heap_setBlock_same hb (.map es1 clock1)
  refine ⟨v0, zs, st, setBlock w b (.map es1 clock1), hrun1, hat, ints_block hoi (fun g hg => heap_setBlock_other hb _ (hne g hg)), hl, grown_set, fun w2 v' zs' hg hoi' hl' hloc => ?_⟩
  have hb2 : w2.heap[b]? = some (.map es1 clock1) := (hg.block b (by simpa [setBlock] using hbs) (fun e => hne b e.symm rfl)).trans hb1
  have hsz : w.heap.size ≤ w2.heap.size := by simpa [setBlock] using hg.size
  have hbw : (setBlock w2 b (.map es clock)).heap[b]? = some (.map es clock) := heap_setBlock_same hb2 _
  have hne' : ∀ g, v'.ownBlock = some g → g ≠ b := fun g hg hgb => by
    have := (hoi'.1.lt g hg).1
    omega
  have hgr : w.grownBy (setBlock w2 b (.map es clock)) v0.ownBlock := ⟨hg.os, hg.tape, hg.output, by simpa [setBlock] using hsz, fun i hi hi2 => by
    by_cases hib : i = b
    · subst hib
      rw [hbw, hb]
    · rw [heap_setBlock_other hb2 _ hib]
      refine (hg.block i (by simpa [setBlock] using hi) hi2).trans ?_
      exact heap_setBlock_other hb _ hib⟩
  obtain ⟨w3, hup, hown3, hg3⟩ := hback (setBlock w2 b (.map es clock)) v' zs' hgr (ints_block hoi' fun g hg => heap_setBlock_other hb2 _ (hne' g hg)) hl' (hloc.imp id fun ⟨g, h1, h2⟩ => ⟨g, h1, by simpa [setBlock] using h2⟩)
  obtain ⟨es', clock', hst, hup'⟩ := hstore (setBlock w2 b (.map es clock)) w2 v' hbw hb2
  rw [set_set] at hup'
  have hw3 : w3 = setBlock w2 b (.map es' clock') := by
    rw [hup] at hup'
    cases hup'
    rfl
  subst hw3
  exact ⟨_, hst, hown3, grown_set⟩
end

/-- Looking up, in whatever world the map's block is as it was. -/
theorem groups_look {H : Type} {P : Program} {w : World} {t k E e : TypeId} {b n base : Nat} {q : IntKind} {D : DataW H} {key : Value} {kl : Lit} (h : w.ownsGroups P k base e q b n D) (K : KeyLaw P k) (ht : P.underlying t = some (.map k E)) (hz : ∀ u : World, (zeroValue E).run P u = .ok (.slice none 0 0) u) (hn : n < maxLen) (hkey : keyOf P k key = some kl) :
    ∃ v zs, D.atKey kl .nil = rowDatum q v zs ∧ w.ownsInts base e q v zs ∧ zs.length ≤ n ∧ ∀ w' : World, w'.heap[b]? = w.heap[b]? → (Instr.lookup t (.map (some b)) key false).run P w' = .ok v w' := by
  obtain ⟨v, zs, hrun, hat, hoi, hl, _⟩ := h.at (Keyed.of_law K) ht (hz w) hn hkey
  refine ⟨v, zs, hat, hoi, hl, fun w' hw' => ?_⟩
  obtain ⟨es, clock, hb, F, _⟩ := h
  have hb' := hw'.trans hb
  rcases K.find w hkey es.toList F.keys with ⟨h1, h2⟩ | ⟨j, e0, h1, h2, h3⟩
  · rcases K.find w' hkey es.toList F.keys with ⟨g1, g2⟩ | ⟨j', e', g1, g2, g3⟩
    · have hv : v = .slice none 0 0 := by
        have : (Instr.lookup t (.map (some b)) key false).run P w = .ok (.slice none 0 0) w := by simp [Instr.lookup, run_underlying ht, MapKept.run_getObj_map hb, K.check w _ hkey, h1, hz, Result.andThen]
        rw [hrun] at this
        cases this
        rfl
      rw [hv]
      simp [Instr.lookup, run_underlying ht, MapKept.run_getObj_map hb', K.check w' _ hkey, g1, hz, Result.andThen]
    · exact absurd g3 (h2 e' (List.mem_of_getElem? g2))
  · rcases K.find w' hkey es.toList F.keys with ⟨g1, g2⟩ | ⟨j', e', g1, g2, g3⟩
    · exact absurd h3 (g2 e0 (List.mem_of_getElem? h2))
    · obtain rfl : j' = j := by
        have a1 : (es.toList.map (·.key))[j']? = some key := by rw [List.getElem?_map, g2]; simp [g3]
        have a2 : (es.toList.map (·.key))[j]? = some key := by rw [List.getElem?_map, h2]; simp [h3]
        have l1 := (List.getElem?_eq_some_iff.1 a1).1
        exact (List.getElem?_inj l1 F.stamped.2.2).1 (a1.trans a2.symm)
      obtain rfl : e' = e0 := Option.some.inj (g2.symm.trans h2)
      have hv : v = e'.val := by
        have : (Instr.lookup t (.map (some b)) key false).run P w = .ok e'.val w := by simp [Instr.lookup, run_underlying ht, MapKept.run_getObj_map hb, K.check w _ hkey, h1, Result.andThen]
        rw [hrun] at this
        cases this
        rfl
      rw [hv]
      simp [Instr.lookup, run_underlying ht, MapKept.run_getObj_map hb', K.check w' _ hkey, g1, Result.andThen]

/-- The three operations, run. -/
theorem exec_entry {P : Program} {w w' : World} {o : Oper} {a : Act} {m x : Operand} {t : TypeId} {M key v : Value} (hop : o.op = .mapEntry t m x) (hm : a.eval m = M) (hx : a.eval x = key) (hrun : (Instr.mapEntry t M key).run P w = .ok v w') :
    (execOp a.eval o).run P w = .ok (.value v) w' := by
  simp only [execOp, hop, Sem.run_bind, Sem.run_pure, Result.andThen_ok, hm, hx, hrun]
theorem exec_stored {P : Program} {w w' : World} {o : Oper} {a : Act} {m s x : Operand} {t : TypeId} {M st v : Value} (hop : o.op = .entryStore t m s x) (hm : a.eval m = M) (hs : a.eval s = st) (hx : a.eval x = v) (hrun : (Instr.entryStore t M st v).run P w = .ok () w') :
    (execOp a.eval o).run P w = .ok .skip w' := by
  simp only [execOp, hop, Sem.run_bind, Sem.run_pure, Result.andThen_ok, hm, hs, hx, hrun]
theorem exec_append {P : Program} {w w' : World} {o : Oper} {a : Act} {s x : Operand} {t : TypeId} {S X v : Value} (hop : o.op = .call { callee := .builtin .append, args := #[s, x], argTypes := #[t, t] }) (hs : a.eval s = S) (hx : a.eval x = X) (hrun : (Builtin.append_ #[t, t] o.type #[S, X]).run P w = .ok v w') :
    (execOp a.eval o).run P w = .ok (.value v) w' := by
  simp only [execOp, hop, resolve, invoke, builtin, Sem.run_bind, Sem.run_pure, Result.andThen_ok, List.map_toArray, List.map_cons, List.map_nil, hs, hx, hrun]
/-- The append of one number, told where the slice lies behind it. -/
theorem added_at {P : Program} {w : World} (t ty : TypeId) (base : Nat) (e : TypeId) (i : TypeInfo) (q : IntKind) (ht : P.underlying t = some (.slice e)) (hi : P.info? e = some i) (hz : i.zero = some (.int q 0)) (hsize : i.size = 1) (hby : i.bytes ≤ 8)
    (v : Value) (zs : List Int) (hown : w.ownsInts base e q v zs) (g c : Nat) (y : Int) (hy : w.cell? ⟨g, 0, none⟩ = some (.int q y)) (hwf : (Lit.int q y).wf = true) (hl : zs.length ≤ 1000000) (hbase : base ≤ w.heap.size) :
    ∃ v' w', (Builtin.append_ #[t, t] ty #[v, .slice (some ⟨g, 0, none⟩) 1 c]).run P w = .ok v' w' ∧ w'.ownsInts base e q v' (zs ++ [y]) ∧ w.grownBy w' v.ownBlock ∧ (v'.ownBlock = v.ownBlock ∨ v'.ownBlock = some w.heap.size) := by
  have hnews : ∀ j u, [Value.int q y][j]? = some u → w.cell? ((⟨g, 0, none⟩ : Addr).add j) = some u := fun j u hj => by
    match j, hj with
    | 0, hj =>
      simp at hj
      subst hj
      simpa [Addr.add] using hy
  obtain ⟨v', w', hr, h2, h3, h4, h5⟩ := run_append_own_at (P := P) w base t ty e i (.int q 0) 1 i.bytes ht hi hz hsize rfl rfl (by omega) v zs.length (zs.map (Value.int q)) hown.1 ⟨g, 0, none⟩ 1 c [.int q y] rfl hnews (ints_oneCell q [y]) (by unfold maxLen; omega) (by
    have : (zs.length + 1) * i.bytes ≤ 1000001 * 8 := Nat.mul_le_mul (by omega) hby
    omega) hbase
  exact ⟨v', w', hr, hown.appended h2 hwf, h3, h5⟩
/-- A slice's row lies in no block of another type. -/
theorem own_ne {w : World} {base : Nat} {e t : TypeId} {q : IntKind} {v : Value} {zs : List Int} {g : Nat} {cs : Array Value} {fr : Nat × Nat} (h : w.ownsInts base e q v zs) (hg : w.heap[g]? = some (.cells cs t fr)) (hne : t ≠ e) : v.ownBlock ≠ some g := fun hv => by
  rcases h.1.2 with ⟨rfl, _⟩ | ⟨g', cap, cur, rfl, _, hh, _⟩
  · cases hv
  · simp only [Value.ownBlock, Option.some.injEq] at hv
    subst hv
    rw [hg] at hh
    simp only [Option.some.injEq, Obj.cells.injEq] at hh
    exact hne hh.2.1
/-- A family of worlds of which something holds. -/
theorem fam_sub (F : World → Prop) (w : World) (h : F w.drew) : ∃ (ι : Type) (_ : Nonempty ι) (W : ι → World) (i0 : ι), w.drew = W i0 ∧ (∀ i, F (W i)) ∧ ∀ w', F w' → ∃ j, w' = W j :=
  ⟨{ x : World // F x }, ⟨⟨w.drew, h⟩⟩, fun i => i.1, ⟨w.drew, h⟩, rfl, fun i => i.2, fun w' h' => ⟨⟨w', h'⟩, rfl⟩⟩
end Go.Proofs.Ytdhlbcbgbmgcjaa.Ent
