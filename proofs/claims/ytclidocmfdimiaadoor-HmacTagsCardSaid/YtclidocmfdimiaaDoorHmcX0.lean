/- Layer 8 (hmac): what a program's Tag does with parts made on the spot, and the program's Same of equal bytes. -/
import Derived.Test.YtclidocmfdimiaaDoorHmcL
import Derived.Test.YtclidocmfdimiaaDoorShaQ
namespace Go.Proofs.YtclidocmfdimiaaDoor.Hmc
open Go.RowKit Sha Slc

/-- Behind a call of Tag: a row of 32 bytes of one's own. -/
def Done (B : Nat) (w0 w : World) (t : List Int) (e : Ending) (w' : World) : Prop :=
  ∃ A c, e = .returned (.slice A 32 c) ∧ Row .u8 w' w'.heap.size A 32 t ∧ Below B w0 w' ∧ Below w.heap.size w w'

theorem tag_at (htag : TagOk) (A A' : Option Addr) (n c n' c' : Nat) (k : List Int) (L : List Part) (B B1 : Nat) (w0 w : World) (hb : Below B w0 w) (hB : B ≤ w.heap.size) (h : Row .u8 w B1 A n k) (hB1 : B1 ≤ w.heap.size) (hnil : A = none → c = 0) (hc : n ≤ c) (hn : n ≤ 100000) (hk : ∀ x ∈ k, 0 ≤ x ∧ x ≤ 255)
    (hp : Prs w w.heap.size A' n' L) (hnil' : A' = none → c' = 0) (hc' : n' ≤ c') (hm1 : n' ≤ 100000) (ht : total L ≤ 100000) (hT : Lay w) :
    Calls Tryd.prog 7 #[.slice A n c, .slice A' n' c'] w (Done B w0 w (mac k (whole L))) := by
  refine (htag A A' n c n' c' k L _ (h.more hB1) hnil hc hk hp hnil' hc' hn hm1 ht hT).mono ?_
  rintro e w' ⟨v, rfl, hown, hb2⟩
  obtain ⟨A2, c2, rfl, -, -⟩ := own_slice hown
  exact ⟨A2, c2, rfl, Row.of_own hown, hb.trans (hb2.mono hB), hb2⟩

/-- A literal of slices. -/
theorem prs_lit (w : World) (L : List Part) (m : Nat) (cs : Array Value) (t : TypeId) (hcs : cs.toList = L.map Part.v) (hm : L.length = m) (hL : ∀ p ∈ L, p.Right w w.heap.size) (hy : ∀ p ∈ L, p.n ≤ p.c ∧ ∀ x ∈ p.xs, 0 ≤ x ∧ x ≤ 255) :
    Prs (w.alloc (.cells cs t)) (w.alloc (.cells cs t)).heap.size (some ⟨w.heap.size, 0, none⟩) m L := by
  subst hm
  have hbw : Below w.heap.size w (w.alloc (.cells cs t)) := (Below.refl _ _).alloc (Nat.le_refl _) _
  have hsz : (w.alloc (.cells cs t)).heap.size = w.heap.size + 1 := by simp
  refine Prs.of_blk (B := (w.alloc (.cells cs t)).heap.size) (g := w.heap.size) (L := L) (heap_alloc_new w _) (by omega) hcs ?_ hy
  exact fun p hp => ⟨((hL p hp).1.below hbw).more (by omega), (hL p hp).2⟩

theorem prs_twice (w : World) (L : List Part) (m : Nat) (cs : Array Value) (t : TypeId) (hcs : cs.toList = L.map Part.v) (hm : L.length = m) (hL : ∀ p ∈ L, p.Right w w.heap.size) (hy : ∀ p ∈ L, p.n ≤ p.c ∧ ∀ x ∈ p.xs, 0 ≤ x ∧ x ≤ 255) :
    Prs ((w.alloc (.cells cs t)).alloc (.cells cs t)) ((w.alloc (.cells cs t)).alloc (.cells cs t)).heap.size (some ⟨w.heap.size, 0, none⟩) m L ∧
    Prs ((w.alloc (.cells cs t)).alloc (.cells cs t)) ((w.alloc (.cells cs t)).alloc (.cells cs t)).heap.size (some ⟨w.heap.size + 1, 0, none⟩) m L := by
  have hbw : Below w.heap.size w (w.alloc (.cells cs t)) := (Below.refl _ _).alloc (Nat.le_refl _) _
  have h2 : Below (w.alloc (.cells cs t)).heap.size (w.alloc (.cells cs t)) ((w.alloc (.cells cs t)).alloc (.cells cs t)) := (Below.refl _ _).alloc (Nat.le_refl _) _
  refine ⟨((prs_lit w L m cs t hcs hm hL hy).below h2).more (by simp), ?_⟩
  have := prs_lit (w.alloc (.cells cs t)) L m cs t hcs hm (fun p hp => ⟨((hL p hp).1.below hbw).more (by simp), (hL p hp).2⟩) hy
  rwa [show (w.alloc (.cells cs t)).heap.size = w.heap.size + 1 by simp] at this

theorem tag_parts (htag : TagOk) (A : Option Addr) (n c : Nat) (k : List Int) (L : List Part) (m : Nat) (B B1 : Nat) (w0 w : World) (cs : Array Value) (hcs : cs.toList = L.map Part.v) (hm : L.length = m) (hb : Below B w0 w) (hB : B ≤ w.heap.size) (h : Row .u8 w B1 A n k) (hB1 : B1 ≤ w.heap.size) (hnil : A = none → c = 0) (hc : n ≤ c) (hn : n ≤ 100000) (hk : ∀ x ∈ k, 0 ≤ x ∧ x ≤ 255)
    (hL : ∀ p ∈ L, p.Right w w.heap.size) (hy : ∀ p ∈ L, p.n ≤ p.c ∧ ∀ x ∈ p.xs, 0 ≤ x ∧ x ≤ 255) (hm1 : m ≤ 100000) (ht : total L ≤ 100000) (hT : Lay w) :
    Calls Tryd.prog 7 #[.slice A n c, .slice (some ⟨w.heap.size, 0, none⟩) m m] (w.alloc (.cells cs 22)) (Done B w0 w (mac k (whole L))) := by
  have hbw : Below w.heap.size w (w.alloc (.cells cs 22)) := (Below.refl _ _).alloc (Nat.le_refl _) _
  refine (tag_at htag A _ n c m m k L B B1 w0 _ (hb.alloc hB _) (by simp; omega) (h.below (hbw.mono hB1)) (by simp; omega) hnil hc hn hk (prs_lit w L m cs 22 hcs hm hL hy) (fun h => by cases h) (Nat.le_refl _) hm1 ht (hT.below hbw hT.tab.1)).mono ?_
  rintro e w' ⟨A2, c2, he, hr, h1, h2⟩
  exact ⟨A2, c2, he, hr, h1, hbw.trans (h2.mono (by simp))⟩

theorem same_done (A A' : Option Addr) (c c' B B' : Nat) (xs : List Int) (w : World) (h : Row .u8 w B A 32 xs) (h' : Row .u8 w B' A' 32 xs) (hx : ∀ x ∈ xs, 0 ≤ x ∧ x ≤ 255) :
    Calls Tryd.prog 12 #[.slice A 32 c, .slice A' 32 c'] w fun e w' => e = .returned (.bool true) ∧ Below w.heap.size w w' := by
  refine (psame_any A A' 32 c 32 c' B B' xs xs w h h' (by omega) (by omega) hx hx).mono ?_
  rintro e w' ⟨rfl, q, rfl⟩
  exact ⟨by rw [decide_eq_true rfl], ⟨rfl, rfl, rfl, Nat.le_refl _, fun _ _ => rfl⟩⟩

theorem mac_byt (k b : List Int) : ∀ x ∈ mac k b, 0 ≤ x ∧ x ≤ 255 := sum256_byt _
end Go.Proofs.YtclidocmfdimiaaDoor.Hmc
