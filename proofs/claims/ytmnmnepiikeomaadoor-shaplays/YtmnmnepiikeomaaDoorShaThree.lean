/- Three hashes in an array, and beside them what came to each. -/
import Derived.Test.YtmnmnepiikeomaaDoorShaAgain
namespace Go.Proofs.YtmnmnepiikeomaaDoor
open Go.RowKit

def ptr3 (G : Nat → Nat) : List Value := [.pointer (some ⟨G 0, 0, none⟩), .pointer (some ⟨G 1, 0, none⟩), .pointer (some ⟨G 2, 0, none⟩)]
structure Three (w : World) (B gH gB : Nat) (G : Nat → Nat) (U : Nat → Value) (X : Nat → List Int) : Prop where
  aH : Arr w gH 36 (ptr3 G)
  aB : Arr w gB 37 [U 0, U 1, U 2]
  hash : ∀ p, p < 3 → IsHash w (G p) (X p)
  own : ∀ p, p < 3 → Own8 w B (U p) (X p)
  ne : ∀ p q, p < 3 → q < 3 → p ≠ q → G p ≠ G q
  lo : ∀ p, p < 3 → B ≤ G p
  loH : B ≤ gH
  loB : B ≤ gB
section
variable {w w' : World} {B gH gB : Nat} {G : Nat → Nat} {U : Nat → Value} {X : Nat → List Int}
theorem Three.below (h : Three w B gH gB G U X) (hb : Below w.heap.size w w') : Three w' B gH gB G U X :=
  ⟨h.aH.below hb, h.aB.below hb, fun p hp => (h.hash p hp).below hb, fun p hp => (h.own p hp).below hb, h.ne, h.lo, h.loH, h.loB⟩
theorem arr_ne {g g' : Nat} {t t' : TypeId} {c c' : List Value} (h : Arr w g t c) (h' : Arr w g' t' c') (ht : t ≠ t') : g ≠ g' := fun e => by
  subst e
  have := h.symm.trans h'
  simp only [Option.some.injEq, Obj.cells.injEq] at this
  exact ht this.2.1
theorem own_arr {g : Nat} {t : TypeId} {c : List Value} {v : Value} {xs : List Int} (h : Own8 w B v xs) (h' : Arr w g t c) (ht : 5 ≠ t) : v.ownBlock ≠ some g := fun e => by
  rcases h.1.2 with ⟨rfl, _⟩ | ⟨g', cap, cur, rfl, _, hg, _⟩
  · simp [Value.ownBlock] at e
  · simp only [Value.ownBlock, Option.some.injEq] at e
    subst e
    have := hg.symm.trans h'
    simp only [Option.some.injEq, Obj.cells.injEq] at this
    exact ht this.2.1
theorem IsHash.arr {g : Nat} {xs : List Int} (h : IsHash w g xs) : ∃ c, Arr w g 64 c := by
  obtain ⟨_, _, r, _, _, _, h6⟩ := h
  exact ⟨_, h6⟩
theorem Three.kept (h : Three w B gH gB G U X) {g : Nat} (hg : w.grownBy w' (some g)) (h1 : g ≠ gH) (h2 : g ≠ gB) (h3 : ∀ p, p < 3 → G p ≠ g) (h4 : ∀ p, p < 3 → (U p).ownBlock ≠ some g) : Three w' B gH gB G U X :=
  ⟨h.aH.keep (hg.block gH h.aH.lt (by simpa using Ne.symm h1)), h.aB.keep (hg.block gB h.aB.lt (by simpa using Ne.symm h2)), fun p hp => (h.hash p hp).kept hg (h3 p hp), fun p hp => (h.own p hp).kept hg (Or.inr (h4 p hp)), h.ne, h.lo, h.loH, h.loB⟩
def upd {α : Type} (f : Nat → α) (p : Nat) (x : α) : Nat → α := fun q => if q = p then x else f q
theorem upd_eq {α : Type} {f : Nat → α} {p : Nat} {x : α} : upd f p x p = x := if_pos rfl
theorem upd_ne {α : Type} {f : Nat → α} {p q : Nat} {x : α} (h : q ≠ p) : upd f p x q = f q := if_neg h
theorem Three.ptr (h : Three w B gH gB G U X) (p : Nat) (hp : p < 3) : w.cell? ⟨gH, p, none⟩ = some (.pointer (some ⟨G p, 0, none⟩)) := by
  rw [h.aH.cell]
  rcases (show p = 0 ∨ p = 1 ∨ p = 2 by omega) with rfl | rfl | rfl <;> rfl
theorem Three.val (h : Three w B gH gB G U X) (p : Nat) (hp : p < 3) : w.cell? ⟨gB, p, none⟩ = some (U p) := by
  rw [h.aB.cell]
  rcases (show p = 0 ∨ p = 1 ∨ p = 2 by omega) with rfl | rfl | rfl <;> rfl
theorem Three.GneH (h : Three w B gH gB G U X) {p : Nat} (hp : p < 3) : G p ≠ gH ∧ G p ≠ gB := by
  obtain ⟨c, hc⟩ := (h.hash p hp).arr
  exact ⟨arr_ne hc h.aH (by decide), arr_ne hc h.aB (by decide)⟩
theorem Three.HneB (h : Three w B gH gB G U X) : gH ≠ gB := arr_ne h.aH h.aB (by decide)
theorem Three.UneG (h : Three w B gH gB G U X) {p q : Nat} (hp : p < 3) (hq : q < 3) : (U p).ownBlock ≠ some (G q) := by
  obtain ⟨c, hc⟩ := (h.hash q hq).arr
  exact own_arr (h.own p hp) hc (by decide)
/-- Bytes came to one of them. -/
theorem Three.wrote (h : Three w B gH gB G U X) {o : Nat} (ho : o < 3) {ys : List Int} (hg : w.grownBy w' (some (G o))) (hH : IsHash w' (G o) (X o ++ ys)) :
    Arr w' gH 36 (ptr3 G) ∧ Arr w' gB 37 [U 0, U 1, U 2] ∧ (∀ p, p < 3 → IsHash w' (G p) (upd X o (X o ++ ys) p)) ∧ (∀ p, p < 3 → Own8 w' B (U p) (X p)) := by
  have hn := h.GneH ho
  refine ⟨h.aH.keep (hg.block gH h.aH.lt (by simpa using Ne.symm hn.1)), h.aB.keep (hg.block gB h.aB.lt (by simpa using Ne.symm hn.2)), fun p hp => ?_, fun p hp => (h.own p hp).kept hg (Or.inr (h.UneG hp ho))⟩
  by_cases e : p = o
  · subst e; rw [upd_eq]; exact hH
  · rw [upd_ne e]; exact (h.hash p hp).kept hg (h.ne p o hp ho e)
theorem set3 {α : Type} (f : Nat → α) {p : Nat} (hp : p < 3) (x : α) : [f 0, f 1, f 2].set p x = [upd f p x 0, upd f p x 1, upd f p x 2] := by
  rcases (show p = 0 ∨ p = 1 ∨ p = 2 by omega) with rfl | rfl | rfl <;> rfl
theorem ptr3_set (G : Nat → Nat) {p : Nat} (hp : p < 3) (g : Nat) : (ptr3 G).set p (.pointer (some ⟨g, 0, none⟩)) = ptr3 (upd G p g) := by
  rcases (show p = 0 ∨ p = 1 ∨ p = 2 by omega) with rfl | rfl | rfl <;> rfl
/-- What came to one of them is set down. -/
theorem Three.setU {o : Nat} (ho : o < 3) {u : Value} {X' : Nat → List Int} (aH : Arr w gH 36 (ptr3 G)) (aB : Arr w gB 37 [U 0, U 1, U 2]) (hh : ∀ p, p < 3 → IsHash w (G p) (X' p)) (ho' : ∀ p, p < 3 → p ≠ o → Own8 w B (U p) (X' p)) (hu : Own8 w B u (X' o)) (hne : ∀ p q, p < 3 → q < 3 → p ≠ q → G p ≠ G q) (lo : ∀ p, p < 3 → B ≤ G p) (loH : B ≤ gH) (loB : B ≤ gB) :
    Three (w.setCell ⟨gB, o, none⟩ u) B gH gB G (upd U o u) X' := by
  have hg := grown_set w gB o u
  have hHB := arr_ne aH aB (by decide)
  refine ⟨aH.other _ _ hHB, ?_, fun p hp => ?_, fun p hp => ?_, hne, lo, loH, loB⟩
  · rw [← set3 U ho]
    exact aB.set o u
  · obtain ⟨c, hc⟩ := (hh p hp).arr
    exact (hh p hp).kept hg (arr_ne hc aB (by decide))
  · by_cases e : p = o
    · subst e; rw [upd_eq]; exact hu.kept hg (Or.inr (own_arr hu aB (by decide)))
    · rw [upd_ne e]; exact (ho' p hp e).kept hg (Or.inr (own_arr (ho' p hp e) aB (by decide)))
/-- A new hash is set down at a place. -/
theorem Three.setG (h : Three w B gH gB G U X) {p g : Nat} (hp : p < 3) {xs : List Int} (hg0 : w.heap.size ≤ g) (hb : Below w.heap.size w w') (hH : IsHash w' g xs) {u : Value} (hu : Own8 w' B u xs) (hB : B ≤ w.heap.size) :
    Three ((w'.setCell ⟨gH, p, none⟩ (.pointer (some ⟨g, 0, none⟩))).setCell ⟨gB, p, none⟩ u) B gH gB (upd G p g) (upd U p u) (upd X p xs) := by
  have h' := h.below hb
  have hg := grown_set w' gH p (.pointer (some ⟨g, 0, none⟩))
  have hlt : ∀ q, q < 3 → G q < w.heap.size := fun q hq => (h.hash q hq).lt
  obtain ⟨c, hc⟩ := hH.arr
  refine Three.setU hp (U := U) (G := upd G p g) (X' := upd X p xs) ?_ (h'.aB.other _ _ (Ne.symm h.HneB)) (fun q hq => ?_) (fun q hq e => ?_) ?_ (fun q r hq hr e => ?_) (fun q hq => ?_) h.loH h.loB
  · rw [← ptr3_set G hp]
    exact h'.aH.set p _
  · by_cases e : q = p
    · subst e; rw [upd_eq, upd_eq]; exact hH.kept hg (arr_ne hc h'.aH (by decide))
    · rw [upd_ne e, upd_ne e]; exact (h'.hash q hq).kept hg (h'.GneH hq).1
  · rw [upd_ne e]; exact (h'.own q hq).kept hg (Or.inr (own_arr (h'.own q hq) h'.aH (by decide)))
  · rw [upd_eq]; exact hu.kept hg (Or.inr (own_arr hu h'.aH (by decide)))
  · by_cases e1 : q = p
    · subst e1
      rw [upd_eq, upd_ne (Ne.symm e)]
      have := hlt r hr
      omega
    · rw [upd_ne e1]
      by_cases e2 : r = p
      · subst e2; rw [upd_eq]; have := hlt q hq; omega
      · rw [upd_ne e2]; exact h.ne q r hq hr e
  · by_cases e : q = p
    · subst e; rw [upd_eq]; omega
    · rw [upd_ne e]; exact h.lo q hq
end
def pl (n : Int) : Nat := if n.tmod 3 < 0 then (n.tmod 3 + 3).toNat else (n.tmod 3).toNat
theorem pl_lt (n : Int) : pl n < 3 := by
  have h1 := tmod_bd (c := n) (d := 3) (by decide)
  have e3 : ((3 : Nat) : Int) = 3 := rfl
  rw [e3] at h1
  unfold pl
  split <;> omega
theorem place_calls (n : Int) (w : World) : Calls Tryd.prog 16 #[.int .i64 n] w fun e w' => e = .returned (.int .i64 (pl n : Int)) ∧ w' = w := by
  have h1 := tmod_bd (c := n) (d := 3) (by decide)
  obtain ⟨s, hs⟩ : ∃ s, n.tmod 3 = s := ⟨_, rfl⟩
  have e3 : ((3 : Nat) : Int) = 3 := rfl
  rw [e3, hs] at h1
  have HP : Hid ((pl n : Int) = if s < 0 then s + 3 else s) := by
    show _ = _
    unfold pl
    rw [hs]
    split <;> omega
  by_cases h0 : s < 0
  · go_enter Tryd.func16, Tryd.ntmps16
    go_wp2
    go_ret
    exact ⟨by rw [HP.out, if_pos h0]; rfl, rfl⟩
  · go_enter Tryd.func16, Tryd.ntmps16
    go_wp2
    go_ret
    exact ⟨by rw [HP.out, if_neg (by omega)]; rfl, rfl⟩
end Go.Proofs.YtmnmnepiikeomaaDoor
