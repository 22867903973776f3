/- What filled leaves: every list's own marks, and the three that were lengthened. -/
import Derived.Test.YtmfpkoegpoboiabDoorTail
namespace Go.Proofs.YtmfpkoegpoboiabDoor
open Go.RowKit

theorem info23 : (Tryd.prog.info? 23).map (fun i => (i.zero, i.size, i.bytes)) = some (some (.slice none 0 0), 1, 24) := by kernel_rfl
/-- The mark of the i-th list. -/
def mk (i : Nat) : Int := ((1 + i % 250 : Nat) : Int)
theorem mk_byte (i : Nat) : 0 ≤ mk i ∧ mk i ≤ 255 := by unfold mk; omega
theorem mk_wrap (i : Nat) : (1 + (i : Int) % 250) % 256 = mk i := by unfold mk; omega
def mv (i : Nat) : Value := .int .u8 (mk i)
def tv (i : Nat) : Value := .int .u8 (tm i)
def zz (s : Nat) : Nat := if s = 0 then 1 else if s = 1 then 2 else 70
/-- A slice in the block of another one, or in a new one. -/
def Loc (w : World) (u v : Value) : Prop := v.ownBlock = u.ownBlock ∨ ∃ k, v.ownBlock = some k ∧ w.heap.size ≤ k
theorem app_step {wr W W' : World} {u v v' : Value} (hG : wr.grownBy W u.ownBlock) (hg : W.grownBy W' v.ownBlock) (hv : Loc wr u v) (hat : v'.ownBlock = v.ownBlock ∨ v'.ownBlock = some W.heap.size) : wr.grownBy W' u.ownBlock ∧ Loc wr u v' := by
  refine ⟨grown_new hG hg ?_, ?_⟩
  · rcases hv with hv | ⟨k, hk, hle⟩
    · exact Or.inl hv
    · exact Or.inr fun j hj => by rw [hk] at hj; injection hj with hj; omega
  · rcases hat with hat | hat
    · rcases hv with hv | ⟨k, hk, hle⟩
      · exact Or.inl (hat.trans hv)
      · exact Or.inr ⟨k, hat.trans hk, hle⟩
    · exact Or.inr ⟨_, hat, hG.size⟩
/-- What the first i lists have become, lengthened. -/
def Long3 (w : World) (B S : Nat) (U : Nat → Value) (L : Nat → Nat) (ms : List Value) (i : Nat) : Prop :=
  ∀ k, k < i → ∀ s, s < 3 → ∃ u, ms[3 * k + s]? = some u ∧ Row w B 5 u (longer (mv k) (tv k) (L k) (zz s)) ∧ (u.ownBlock = (U k).ownBlock ∨ ∃ g, u.ownBlock = some g ∧ S ≤ g)
theorem Long3.step {w w' : World} {B S : Nat} {U : Nat → Value} {R : Nat → List Value} {L : Nat → Nat} {ms : List Value} {n i : Nat} (h : Long3 w B S U L ms i) (hi : i < n) (hR : Lines w B S 5 U R n) (hg : w.grownBy w' (U i).ownBlock) : Long3 w' B S U L ms i := by
  intro k hk s hs
  obtain ⟨u, h1, h2, h3⟩ := h k hk s hs
  refine ⟨u, h1, h2.kept hg ?_, h3⟩
  rcases h3 with h3 | ⟨g, hg1, hg2⟩
  · rw [h3]; exact hR.apart k i (by omega) hi (by omega)
  · refine Or.inr fun e => ?_
    have := hR.hi i hi g (e.symm.trans hg1)
    omega
theorem Long3.lines {w w' : World} {B S : Nat} {U : Nat → Value} {L : Nat → Nat} {ms : List Value} {i : Nat} (h : Long3 w B S U L ms i) (hR : ∀ u xs, Row w B 5 u xs → Row w' B 5 u xs) : Long3 w' B S U L ms i := by
  intro k hk s hs
  obtain ⟨u, h1, h2, h3⟩ := h k hk s hs
  exact ⟨u, h1, hR _ _ h2, h3⟩
theorem Long3.add {w : World} {B S : Nat} {U : Nat → Value} {L : Nat → Nat} {ms : List Value} {i : Nat} (h : Long3 w B S U L ms i) (hm : ms.length = 3 * i) {g1 g2 g3 : Value} {wr : World} (hS : S ≤ wr.heap.size)
    (r1 : Row w B 5 g1 (longer (mv i) (tv i) (L i) 1)) (r2 : Row w B 5 g2 (longer (mv i) (tv i) (L i) 2)) (r3 : Row w B 5 g3 (longer (mv i) (tv i) (L i) 70)) (l1 : Loc wr (U i) g1) (l2 : Loc wr (U i) g2) (l3 : Loc wr (U i) g3) :
    Long3 w B S U L (ms ++ [g1, g2, g3]) (i + 1) := by
  have lo : ∀ g, Loc wr (U i) g → (g.ownBlock = (U i).ownBlock ∨ ∃ k, g.ownBlock = some k ∧ S ≤ k) := by
    intro g hg
    rcases hg with hg | ⟨k, h1, h2⟩
    · exact Or.inl hg
    · exact Or.inr ⟨k, h1, by omega⟩
  intro k hk s hs
  by_cases e : k < i
  · obtain ⟨u, h1, h2, h3⟩ := h k e s hs
    exact ⟨u, by rw [List.getElem?_append_left (by omega)]; exact h1, h2, h3⟩
  · obtain rfl : k = i := by omega
    rw [List.getElem?_append_right (by omega)]
    have e2 : 3 * k + s - ms.length = s := by omega
    rw [e2]
    match s, hs with
    | 0, _ => exact ⟨g1, rfl, r1, lo _ l1⟩
    | 1, _ => exact ⟨g2, rfl, r2, lo _ l2⟩
    | 2, _ => exact ⟨g3, rfl, r3, lo _ l3⟩
/-- The rows behind the first loop. -/
def Rf (L : Nat → Nat) (X : Nat → List Value) (i : Nat) : Nat → List Value := fun k => if k < i then List.replicate (L k) (mv k) else X k
theorem Rf_lt {L : Nat → Nat} {X : Nat → List Value} {i k : Nat} (h : k < i) : Rf L X i k = List.replicate (L k) (mv k) := if_pos h
theorem Rf_ge {L : Nat → Nat} {X : Nat → List Value} {i k : Nat} (h : ¬ k < i) : Rf L X i k = X k := if_neg h
/-- A literal of three slices. -/
theorem cell_three_new (w : World) (x y z : Value) (t : TypeId) : ∀ j u, [x, y, z][j]? = some u → (w.alloc (.cells #[x, y, z] t)).cell? ((⟨w.heap.size, 0, none⟩ : Addr).add j) = some u := by
  intro j u hj
  rw [Addr.add_lit, cell_of_row _ w.heap.size (0 + j) #[x, y, z] t (0, 0) (heap_alloc_new w _), Nat.zero_add]
  simpa using hj
end Go.Proofs.YtmfpkoegpoboiabDoor
