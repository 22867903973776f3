/- DiskWhole, walked whole. -/
import Derived.Test.YtfgjhlnaaopdeabOtK
namespace Go.Proofs.Ytfgjhlnaaopdeab
open Go.RowKit Go.Maps

theorem ws_at {w : World} {g n c k i : Nat} {l : Ats} {s : List Int} (h : IsWs w (.slice (some ⟨g, 0, none⟩) n c) l) (hk : k < l.length) (hl : l.getD k dA = ((i : Int), s)) :
    ∃ ua un uc, Hid (∀ W, Km w W → W.cell? ⟨g, k * 2, none⟩ = some (.int .i64 (i : Int)) ∧ W.cell? ⟨g, k * 2 + 1, none⟩ = some (.slice ua un uc)) ∧ Own8 w 0 (.slice ua un uc) s := by
  obtain ⟨u, hc1, hc2, hu⟩ := h.elem (j := k) hk
  rw [hl] at hc1 hu
  obtain ⟨ua, un, uc, rfl⟩ := hu.isB.shape
  refine ⟨ua, un, uc, fun W hK => ?_, hu⟩
  have e := h.blk_km hK
  exact ⟨(World.cell?_of_block (a := ⟨g, k * 2, none⟩) e).trans hc1, (World.cell?_of_block (a := ⟨g, k * 2 + 1, none⟩) e).trans hc2⟩
theorem dka_write_drew {A : Nat → Prop} {w wr : World} {B i p q : Nat} {G : Nat → Nat} {D E : AD} {u : Value} {s : List Int} (h : Dka A w wr B 2 (two p q) G (two D E)) (hi : i < D.la.length) (hB : B ≤ 1000000000) (hu : Own8 wr 0 u s) (hs : IsSec s) :
    Hid (∀ W, W = wr.drew → Calls Try.prog 10 #[.pointer (some ⟨p, 0, none⟩), .int .i64 (i : Int), u] W fun e w' => e = .returned (.int .i64 0) ∧ Dka A w w' (B + 1) 2 (two p q) G (two (D.write i s) E) ∧ Km wr w') := fun W hWe => by
  have hbd : Below wr.heap.size wr W := by rw [hWe]; exact (Below.refl _ _).drew
  refine (dka_write (k := 0) (h.below hbd) (by decide) (two0 p q) (i := i) hi hB (hu.below hbd) hs).mono ?_
  rintro e w' ⟨h1, h2, h3⟩
  exact ⟨h1, by rw [updF_two0, two0] at h2; exact h2, by rw [hWe] at h3; exact km_drew h3⟩
theorem dka_write_drew1 {A : Nat → Prop} {w wr : World} {B i p q : Nat} {G : Nat → Nat} {D E : AD} {u : Value} {s : List Int} (h : Dka A w wr B 2 (two p q) G (two D E)) (hi : i < E.la.length) (hB : B ≤ 1000000000) (hu : Own8 wr 0 u s) (hs : IsSec s) :
    Hid (∀ W, W = wr.drew → Calls Try.prog 10 #[.pointer (some ⟨q, 0, none⟩), .int .i64 (i : Int), u] W fun e w' => e = .returned (.int .i64 0) ∧ Dka A w w' (B + 1) 2 (two p q) G (two D (E.write i s)) ∧ Km wr w') := fun W hWe => by
  have hbd : Below wr.heap.size wr W := by rw [hWe]; exact (Below.refl _ _).drew
  refine (dka_write (k := 1) (h.below hbd) (by decide) (two1 p q) (i := i) hi hB (hu.below hbd) hs).mono ?_
  rintro e w' ⟨h1, h2, h3⟩
  exact ⟨h1, h2.congr (fun _ _ => rfl) (fun _ _ => rfl) (updF_two1 D E _), by rw [hWe] at h3; exact km_drew h3⟩
theorem infoInt : (Try.prog.info? 3).map (fun i => (i.zero, i.size, i.bytes)) = some (some (.int .i64 0), 1, 8) := by kernel_rfl
section
variable {ops : Array Oper} {rest : List Oper} {o : Oper} {a : Act} {Q : Exit → Act → World → Prop} {w : World}
set_option maxRecDepth 100000 in
theorem wpList_appI1 (hgd : o.guard = none) (x y : Operand) (ho : o.op = .call { callee := .builtin .append, args := #[x, y], argTypes := #[40, 40] }) {B g k : Nat} {v : Value} {z : Int} (hx : a.eval x = v) (hown : w.ownsRow B 3 1 v k (List.replicate k (.int .i64 z))) (hy : a.eval y = .slice (some ⟨g, 0, none⟩) 1 1)
    (hc : w.cell? ⟨g, 0, none⟩ = some (.int .i64 z)) (hl : k ≤ 1000000) (hB : B ≤ w.heap.size)
    (hk : ∀ v' w', w'.ownsRow B 3 1 v' (k + 1) (List.replicate (k + 1) (.int .i64 z)) → w.grownBy w' v.ownBlock → (v.ownBlock = none ∨ ∃ b, v.ownBlock = some b ∧ B ≤ b) → wpList Try.prog ops Q rest (a.put o.dst v') w') : wpList Try.prog ops Q (o :: rest) a w := by
  obtain ⟨i0, hi, hz0, hz1, hz2⟩ := info_parts infoInt
  have hob : v.ownBlock = none ∨ ∃ b, v.ownBlock = some b ∧ B ≤ b := by
    cases hv : v.ownBlock with
    | none => exact Or.inl rfl
    | some b => exact Or.inr ⟨b, rfl, (hown.lt b hv).1⟩
  refine wpList_plain hgd fun K hK => wp_append_own w x y 40 ho B 3 i0 _ 1 8 Try.underlying40 hi hz0 hz1 hz2 rfl (by decide) v k _ hx hown ⟨g, 0, none⟩ 1 1 [.int .i64 z] hy rfl (fun j u hu => ?_) (fun u hu => ?_) (by unfold maxLen; omega) (by omega) hB ?_
  · cases j with
    | zero =>
      injection hu with hu
      subst hu
      exact hc
    | succ j => simp at hu
  · rw [List.mem_singleton.1 hu]; rfl
  · intro v' w' r1 r2 _
    refine hK _ _ (hk v' w' ?_ r2 hob)
    rw [List.replicate_succ']
    exact r1
end
/-- Behind k of the first writes. -/
def Wa (w wr : World) (k n p q : Nat) (v1 v2 : Value) (L1 L2 : Ats) : Prop := ∃ G D E, Dka (fun b => b < w.heap.size) w wr (2 * k) 2 (two p q) G (two D E) ∧ IsWs wr v1 L1 ∧ IsWs wr v2 L2 ∧ D.la.length = n ∧ E.la.length = n ∧ Nw E (L1.take k)
/-- Behind k of the later ones. -/
def Wb (A : Nat → Prop) (w wr : World) (B n p q : Nat) (v1 v2 : Value) (L1 L2 L : Ats) (LA : List (List Int)) : Prop := ∃ G D E, Dka A w wr B 2 (two p q) G (two D E) ∧ IsWs wr v1 L1 ∧ IsWs wr v2 L2 ∧ D.la = LA ∧ Wl D L ∧ E.la.length = n ∧ Nw E (L1 ++ L)
/-- Behind k of the readings. -/
def Wc (A : Nat → Prop) (w wr : World) (B p q : Nat) (G : Nat → Nat) (D E : AD) (v : Value) (L : Ats) : Prop := Dka A w wr B 2 (two p q) G (two D E) ∧ IsWs wr v L
theorem img_cell {w : World} {B g n : Nat} {xss : List (List Int)} (h : Img w B (.slice (some ⟨g, 0, none⟩) n n) xss) (hl : xss.length = n) {j : Nat} (hj : j < n) :
    ∃ gj, w.cell? ⟨g, j, none⟩ = some (.slice (some ⟨gj, 0, none⟩) 512 512) ∧ IsB w (.slice (some ⟨gj, 0, none⟩) 512 512) (xss.getD j zsec) := by
  obtain ⟨gI, us, hv, _, hA, _, hjs⟩ := h.val
  injection hv with e1
  injection e1 with e1
  injection e1 with e1
  subst e1
  obtain ⟨gj, _, hus, hg⟩ := hjs j (by omega)
  refine ⟨gj, by rw [hA.cell]; exact hus, isB_arrS hg ?_⟩
  rw [List.getD_eq_getElem?_getD, List.getElem?_eq_getElem (by omega)]
  exact h.sec _ (List.getElem_mem _)
end Go.Proofs.Ytfgjhlnaaopdeab
