/- What turned and Turn answer. -/
import Derived.Test.YtdmkpfpbhmchpaaDoorKG
import Derived.Deep.RegionHeld3
namespace Go.Proofs.YtdmkpfpbhmchpaaDoor
open Go.RowKit Go.Maps

section
variable {ops : Array Oper} {o : Oper} {a : Act} {w : World} {K : Act → World → Prop} {Q : Exit → Act → World → Prop} {E : Prop}
theorem step_call2Q (hgd : o.guard = none) (f : Nat) (hf : ∀ (v u : Value) (W : World), (callFunc f #[v, u]).run Tryd.prog W = .ok (.enter f #[v, u]) W) (x y : Operand) (ts : Array TypeId) (ho : o.op = .call { callee := .value (.func f), args := #[x, y], argTypes := ts }) {v u : Value} (hx : a.eval x = v) (hy : a.eval y = u)
    {Post : Ending → World → Prop} (hc : Calls Tryd.prog f #[v, u] w Post) (hk : ∀ e w2, Post e w2 → ∃ r, e = .returned r ∧ K (a.put o.dst r) w2) :
    if Region.wanted o (yielded ops a.tmps) = true then Oper.wp Tryd.prog o a w K Q else E := by
  rw [if_pos (by simp [Region.wanted, hgd])]
  have hrun : (execOp a.eval o).run Tryd.prog w = .ok (.enter f #[v, u]) w := by
    have h1 := hf v u w
    unfold execOp
    have hfv : a.eval (.func f) = .func (.func f) #[] #[] := rfl
    simp [ho, hx, hy, hfv, resolve, invoke, Deferred.ofValue, h1]
  unfold Oper.wp
  rw [hrun]
  refine hc.mono ?_
  intro e w2 hp
  obtain ⟨r, rfl, hK⟩ := hk e w2 hp
  exact hK
theorem step_loadMid (hgd : o.guard = none) (x : Operand) (ho : o.op = .load 121 x) {b of : Nat} {cs : List Value} (hx : a.eval x = .pointer (some ⟨b, of, none⟩)) (hr : w.rangeAt b of cs) (hi : (Tryd.prog.info? 121).map (·.size) = some cs.length)
    (hk : K (a.put o.dst (.agg cs.toArray)) w) : if Region.wanted o (yielded ops a.tmps) = true then Oper.wp Tryd.prog o a w K Q else E := by
  rw [if_pos (by simp [Region.wanted, hgd])]
  exact wp_load_mid _ x ho b of hx cs _ hr Tryd.underlying121 rfl hi hk
theorem step_storeMid (hgd : o.guard = none) (x y : Operand) (ho : o.op = .store 121 x y) {b of : Nat} {cs : List Value} (hx : a.eval x = .pointer (some ⟨b, of, none⟩)) (hy : a.eval y = .agg cs.toArray) (ht : w.there b of 512) (hl : cs.length = 512) (h1 : ∀ u ∈ cs, u.oneCell' = true)
    (hk : K (a.put o.dst undef) (w.setCells b of cs)) : if Region.wanted o (yielded ops a.tmps) = true then Oper.wp Tryd.prog o a w K Q else E := by
  rw [if_pos (by simp [Region.wanted, hgd])]
  exact wp_store_mid _ x y ho b of cs.toArray hx hy (by rw [List.size_toArray, hl]; exact ht) (by rw [List.size_toArray, hl]; kernel_rfl) (all_oneCell_toArray h1) hk
end
/-- The writes of a sector, a bit of each turned over. -/
theorem Dk.turnRow {w : World} {p gl gm i g k c j : Nat} {V : Nat → Value} {D : AD} {s : List Int} (h : Dk w p gl gm V D) (hV : V i = .slice (some ⟨g, 0, none⟩) k c) (hk : (D.wr i).length = k) (hj : j < k) (hs : IsSec s) :
    Dk (w.setCells g (j * 512) (u8V s)) p gl gm V { D with wr := updF D.wr i ((D.wr i).set j s) } := by
  have hg := grown_setCells w g (j * 512) (u8V s)
  have hob : (V i).ownBlock = some g := by rw [hV]; rfl
  have hok := h.ok
  obtain ⟨M, hM, h2, h3⟩ := h.map
  have hgp : p ≠ g := fun e => h.v_p i (by rw [hob, e])
  have hggl : gl ≠ g := fun e => h.low i (by rw [hob, e])
  have hggm : gm ≠ g := fun e => h.v_gm i (by rw [hob, e])
  refine ⟨⟨hok.lo, hok.hi, hok.las, fun q t ht => ?_, fun q hq => ?_⟩, h.blk.keep (hg.block p h.blk.lt (by simpa using hgp)), h.las.kept hg (Or.inr (by simpa [Value.ownBlock] using hggl)), ⟨M, hM.kept hg (by simpa using hggm), fun q => ⟨(h2 q).1, ?_⟩, h3⟩, fun q => ?_, h.own, h.low⟩
  · by_cases e : q = i
    · subst e
      simp only [updF_same] at ht
      rcases List.mem_or_eq_of_mem_set ht with ht | ht
      · exact hok.wrs q t ht
      · rw [ht]; exact hs
    · simp only [updF_other _ _ e] at ht
      exact hok.wrs q t ht
  · by_cases e : q = i
    · subst e
      have := hok.out q hq
      rw [this] at hk
      simp at hk
      omega
    · simp only [updF_other _ _ e]
      exact hok.out q hq
  · by_cases e : q = i
    · subst e
      simp only [updF_same, List.length_set]
      exact (h2 q).2
    · simp only [updF_other _ _ e]
      exact (h2 q).2
  · by_cases e : q = i
    · subst e
      simp only [updF_same, List.length_set]
      have hr := h.row q
      rw [hV, hk] at hr
      rw [hV, hk]
      exact owns_set hr (hok.wrs q) hk.symm (by omega) hs
    · simp only [updF_other _ _ e]
      exact (h.row q).kept hg (by
        cases hv : (V q).ownBlock with
        | none => exact Or.inl rfl
        | some b => exact Or.inr fun e2 => e (h.own q i b hv (by rw [hob, e2])))
theorem turnedTake {ws : List (List Int)} {bit k : Nat} (hk : k < ws.length) : ((ws.take k).map (turnB · bit) ++ ws.drop k).set k (turnB (ws.getD k zsec) bit) = (ws.take (k + 1)).map (turnB · bit) ++ ws.drop (k + 1) := by
  have h1 : ((ws.take k).map (turnB · bit)).length = k := by simp; omega
  rw [List.set_append_right _ _ (by omega), h1, Nat.sub_self, List.take_succ_eq_append_getElem hk, List.drop_eq_getElem_cons hk, List.set_cons_zero, List.map_append, List.append_assoc, List.getD_eq_getElem?_getD, List.getElem?_eq_getElem hk]
  rfl
def turnD (D : AD) (i bit k : Nat) : AD := { D with la := D.la.set i (turnB (D.la.getD i zsec) bit), wr := updF D.wr i (((D.wr i).take k).map (turnB · bit) ++ (D.wr i).drop k) }
theorem turnD_len (D : AD) (i bit k : Nat) (hk : k ≤ (D.wr i).length) : ((turnD D i bit k).wr i).length = (D.wr i).length := by simp [turnD, updF_same]; omega
theorem turnD_zero (D : AD) (i bit : Nat) : turnD D i bit 0 = { D with la := D.la.set i (turnB (D.la.getD i zsec) bit) } := by
  unfold turnD
  have : updF D.wr i (((D.wr i).take 0).map (turnB · bit) ++ (D.wr i).drop 0) = D.wr := by
    funext q
    by_cases e : q = i
    · subst e; rw [updF_same]; simp
    · rw [updF_other _ _ e]
  rw [this]
theorem turnD_all (D : AD) (i bit : Nat) : turnD D i bit (D.wr i).length = D.turn i bit := by
  unfold turnD AD.turn
  simp
theorem turnD_step (D : AD) (i bit k : Nat) (hk : k < (D.wr i).length) : { turnD D i bit k with wr := updF (turnD D i bit k).wr i (((turnD D i bit k).wr i).set k (turnB ((D.wr i).getD k zsec) bit)) } = turnD D i bit (k + 1) := by
  have h1 : (turnD D i bit k).wr i = ((D.wr i).take k).map (turnB · bit) ++ (D.wr i).drop k := by simp [turnD, updF_same]
  have e : ∀ X, updF (turnD D i bit k).wr i X = updF D.wr i X := fun X => by
    funext q
    by_cases e : q = i
    · subst e; rw [updF_same, updF_same]
    · rw [updF_other _ _ e, updF_other _ _ e]
      unfold turnD
      exact updF_other _ _ e
  rw [h1, turnedTake hk, e]
  rfl
theorem turnD_get (D : AD) (i bit k : Nat) (hk : k < (D.wr i).length) : ((turnD D i bit k).wr i).getD k zsec = (D.wr i).getD k zsec := by
  have h1 : (turnD D i bit k).wr i = ((D.wr i).take k).map (turnB · bit) ++ (D.wr i).drop k := by simp [turnD, updF_same]
  have h2 : (((D.wr i).take k).map (turnB · bit)).length = k := by simp; omega
  rw [h1, List.getD_eq_getElem?_getD, List.getElem?_append_right (by omega), h2, Nat.sub_self, List.getElem?_drop, Nat.add_zero, List.getD_eq_getElem?_getD]
end Go.Proofs.YtdmkpfpbhmchpaaDoor
