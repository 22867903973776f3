/- What turned and Turn answer. -/
import Derived.Test.YthhjlopgpmaokabDoorKG
import Derived.Deep.RegionHeld3
namespace Go.Proofs.YthhjlopgpmaokabDoor
open Go.RowKit Go.Maps

set_option maxRecDepth 100000 in
set_option maxHeartbeats 2000000 in
theorem turned_calls {w : World} {cs : List Value} {x : Int} {bit q r : Nat} (hl : cs.length = 512) (hone : ∀ u ∈ cs, u.oneCell' = true) (hb : bit < 4096) (hq : bit / 8 = q) (hr : bit % 8 = r) (hx : cs[q]? = some (.int .u8 x)) (h0 : 0 ≤ x) (h1 : x ≤ 255) :
    Calls Tryd.prog 46 #[.agg cs.toArray, .int .i64 (bit : Int)] w fun e w' => e = .returned (.agg (cs.set q (.int .u8 ((x.toNat ^^^ 2 ^ r : Nat) : Int))).toArray) ∧ Below w.heap.size w w' := by
  have hr8 : r < 8 := by omega
  have hq5 : q < 512 := by omega
  have hA0 := Arr.new w cs 99
  have e1 : (w.alloc (.cells cs.toArray 99)).heap.size = w.heap.size + 1 := by simp
  have hdiv : (bit : Int).tdiv 8 = (q : Int) := by rw [Int.tdiv_eq_ediv_of_nonneg (by omega)]; omega
  have hmod : (bit : Int).tmod 8 = (r : Int) := by rw [Int.tmod_eq_emod_of_nonneg (by omega)]; omega
  have hdiv2 : (bit : Int) / 8 = (q : Int) := by omega
  have hmod2 : (bit : Int) % 8 = (r : Int) := by omega
  have hc0 := hA0.cell_of hx
  have hA1 := hA0.alloc (.cells zcells.toArray 99)
  have hc1 := hA1.cell_of hx
  have hf1 := hA1.frozen q
  have hxn : ¬ x < 0 := by omega
  go_enter Tryd.func46, Tryd.ntmps46
  go_wp2_with (first | (refine wpList_allocS rfl rfl ?_))
  generalize hw2 : (w.alloc (.cells cs.toArray 99)).alloc (.cells zcells.toArray 99) = w2 at *
  clear hc0 hA0 e1
  go_region
  have hy : bits .xor .u8 x ((2 : Int) ^ r % 256) = ((x.toNat ^^^ 2 ^ r : Nat) : Int) := by
    have hp : (2 : Nat) ^ r < 2 ^ 8 := Nat.pow_lt_pow_right (by omega) hr8
    have e : ((2 : Int) ^ r % 256) = ((2 ^ r : Nat) : Int) := by
      have : (2 : Int) ^ r = ((2 ^ r : Nat) : Int) := by simp
      rw [this]
      generalize (2 : Nat) ^ r = pw at hp
      omega
    rw [e, u8_xor x _ h0 (by omega) (by omega) (by omega), Int.toNat_natCast]
  rw [hy]
  have hA2 := hA1.set q (.int .u8 ((x.toNat ^^^ 2 ^ r : Nat) : Int))
  have hZ1 : Arr w2 (w.heap.size + 1) 99 zcells := by
    rw [← hw2]
    have := Arr.new (w.alloc (.cells cs.toArray 99)) zcells 99
    rw [size_alloc] at this
    exact this
  have hZ2 := hZ1.other ⟨w.heap.size, q, none⟩ (.int .u8 ((x.toNat ^^^ 2 ^ r : Nat) : Int)) (by simp)
  have hbel : Below w.heap.size w (w2.setCell ⟨w.heap.size, q, none⟩ (.int .u8 ((x.toNat ^^^ 2 ^ r : Nat) : Int))).drew := by
    rw [← hw2]
    exact ((((Below.refl _ _).alloc (Nat.le_refl _) _).alloc (by simp) _).setCell (Nat.le_refl _) _).drew
  have hcl : (cs.set q (Value.int .u8 ((x.toNat ^^^ 2 ^ r : Nat) : Int))).length = 512 := by rw [List.length_set]; exact hl
  have hinf : (Tryd.prog.info? 99).map (·.size) = some (cs.set q (Value.int .u8 ((x.toNat ^^^ 2 ^ r : Nat) : Int))).length := by rw [hcl]; kernel_rfl
  have hzl : zcells.length = (cs.set q (Value.int .u8 ((x.toNat ^^^ 2 ^ r : Nat) : Int))).length := by rw [hcl, zcells_len]
  have hone2 : ∀ u ∈ cs.set q (Value.int .u8 ((x.toNat ^^^ 2 ^ r : Nat) : Int)), u.oneCell' = true := fun u hu => by
    rcases List.mem_or_eq_of_mem_set hu with hu | hu
    · exact hone u hu
    · rw [hu]; rfl
  have hund := Tryd.underlying99
  have hA3 := hA2.drew
  have hZ3 := hZ2.drew
  clear hA1 hA2 hZ1 hZ2 hc1 hf1 hw2 hx hone hcl hy hl
  generalize hds : cs.set q (Value.int .u8 ((x.toNat ^^^ 2 ^ r : Nat) : Int)) = ds at *
  have HDS := hide hds
  clear hds
  generalize (w2.setCell ⟨w.heap.size, q, none⟩ (.int .u8 ((x.toNat ^^^ 2 ^ r : Nat) : Int))).drew = w5 at *
  go_wp2_with (first
    | (refine wpList_loadArr rfl (.tmp 2) 99 rfl rfl hA3 hund hinf ?_)
    | (refine wpList_storeArr2 (cs' := ds) rfl (.tmp 4) (.tmp 14) 99 rfl rfl rfl hZ3 hinf hzl hone2 ?_; intro w6 hZ6 hW6))
  exact bodyPost_ret (v := .agg ds.toArray) (results_arr rfl rfl hZ6 hund hinf) rfl ⟨by rw [HDS.out], hW6.below _ _ hbel (by omega)⟩
section
variable {ops : Array Oper} {o : Oper} {a : Act} {w : World} {K : Act → World → Prop} {Q : Exit → Act → World → Prop} {E : Prop}
theorem step_call2Q (hgd : o.guard = none) (f : Nat) (hf : ∀ (v u : Value) (W : World), (callFunc f #[v, u]).run Tryd.prog W = .ok (.enter f #[v, u]) W) (x y : Operand) (ts : Array TypeId) (ho : o.op = .call { callee := .value (.func f), args := #[x, y], argTypes := ts }) {v u : Value} (hx : a.eval x = v) (hy : a.eval y = u)
    {Post : Ending → World → Prop} (hc : Calls Tryd.prog f #[v, u] w Post) (hk : ∀ e w2, Post e w2 → ∃ r, e = .returned r ∧ K (a.put o.dst r) w2) :
    if Region.wanted o (yielded ops a.tmps) = true then Oper.wp Tryd.prog o a w K Q else E := by
  rw [if_pos (by simp [Region.wanted, hgd])]
  have hrun : (execOp a.eval o).run Tryd.prog w = .ok (.enter f #[v, u]) w := by
    have h1 := hf v u w
    unfold execOp
    have hfv : a.eval (.func f) = .func (.func f) #[] #[] := rfl
    simp [ho, hx, hy, hfv, resolve, invoke, Deferred.ofValue, h1]
  unfold Oper.wp
  rw [hrun]
  refine hc.mono ?_
  intro e w2 hp
  obtain ⟨r, rfl, hK⟩ := hk e w2 hp
  exact hK
theorem step_loadMid (hgd : o.guard = none) (x : Operand) (ho : o.op = .load 99 x) {b of : Nat} {cs : List Value} (hx : a.eval x = .pointer (some ⟨b, of, none⟩)) (hr : w.rangeAt b of cs) (hi : (Tryd.prog.info? 99).map (·.size) = some cs.length)
    (hk : K (a.put o.dst (.agg cs.toArray)) w) : if Region.wanted o (yielded ops a.tmps) = true then Oper.wp Tryd.prog o a w K Q else E := by
  rw [if_pos (by simp [Region.wanted, hgd])]
  exact wp_load_mid _ x ho b of hx cs _ hr Tryd.underlying99 rfl hi hk
theorem step_storeMid (hgd : o.guard = none) (x y : Operand) (ho : o.op = .store 99 x y) {b of : Nat} {cs : List Value} (hx : a.eval x = .pointer (some ⟨b, of, none⟩)) (hy : a.eval y = .agg cs.toArray) (ht : w.there b of 512) (hl : cs.length = 512) (h1 : ∀ u ∈ cs, u.oneCell' = true)
    (hk : K (a.put o.dst undef) (w.setCells b of cs)) : if Region.wanted o (yielded ops a.tmps) = true then Oper.wp Tryd.prog o a w K Q else E := by
  rw [if_pos (by simp [Region.wanted, hgd])]
  exact wp_store_mid _ x y ho b of cs.toArray hx hy (by rw [List.size_toArray, hl]; exact ht) (by rw [List.size_toArray, hl]; kernel_rfl) (all_oneCell_toArray h1) hk
end
theorem turned_sec {w : World} {s : List Int} {bit : Nat} (hs : IsSec s) (hb : bit < 4096) :
    Calls Tryd.prog 46 #[.agg (u8V s).toArray, .int .i64 (bit : Int)] w fun e w' => e = .returned (.agg (u8V (turnB s bit)).toArray) ∧ Below w.heap.size w w' := by
  have hq : bit / 8 < s.length := by rw [hs.1]; omega
  have hx : (u8V s)[bit / 8]? = some (.int .u8 (s.getD (bit / 8) 0)) := by
    unfold u8V
    rw [List.getElem?_map, List.getElem?_eq_getElem hq, List.getD_eq_getElem?_getD, List.getElem?_eq_getElem hq]
    rfl
  have hm : 0 ≤ s.getD (bit / 8) 0 ∧ s.getD (bit / 8) 0 ≤ 255 := by
    rw [List.getD_eq_getElem?_getD, List.getElem?_eq_getElem hq]
    exact hs.2 _ (List.getElem_mem hq)
  refine (turned_calls (w := w) (by rw [u8V_len]; exact hs.1) (u8V_one s) hb rfl rfl hx hm.1 hm.2).mono ?_
  rintro e w' ⟨rfl, hbel⟩
  refine ⟨?_, hbel⟩
  unfold turnB u8V
  rw [List.map_set]
  rfl
/-- The writes of a sector, a bit of each turned over. -/
theorem Dk.turnRow {w : World} {p gl gm i g k c j : Nat} {V : Nat → Value} {D : AD} {s : List Int} (h : Dk w p gl gm V D) (hV : V i = .slice (some ⟨g, 0, none⟩) k c) (hk : (D.wr i).length = k) (hj : j < k) (hs : IsSec s) :
    Dk (w.setCells g (j * 512) (u8V s)) p gl gm V { D with wr := updF D.wr i ((D.wr i).set j s) } := by
  have hg := grown_setCells w g (j * 512) (u8V s)
  have hob : (V i).ownBlock = some g := by rw [hV]; rfl
  have hok := h.ok
  obtain ⟨M, hM, h2, h3⟩ := h.map
  have hgp : p ≠ g := fun e => h.v_p i (by rw [hob, e])
  have hggl : gl ≠ g := fun e => h.low i (by rw [hob, e])
  have hggm : gm ≠ g := fun e => h.v_gm i (by rw [hob, e])
  refine ⟨⟨hok.lo, hok.hi, hok.las, fun q t ht => ?_, fun q hq => ?_⟩, h.blk.keep (hg.block p h.blk.lt (by simpa using hgp)), h.las.kept hg (Or.inr (by simpa [Value.ownBlock] using hggl)), ⟨M, hM.kept hg (by simpa using hggm), fun q => ⟨(h2 q).1, ?_⟩, h3⟩, fun q => ?_, h.own, h.low⟩
  · by_cases e : q = i
    · subst e
      simp only [updF_same] at ht
      rcases List.mem_or_eq_of_mem_set ht with ht | ht
      · exact hok.wrs q t ht
      · rw [ht]; exact hs
    · simp only [updF_other _ _ e] at ht
      exact hok.wrs q t ht
  · by_cases e : q = i
    · subst e
      have := hok.out q hq
      rw [this] at hk
      simp at hk
      omega
    · simp only [updF_other _ _ e]
      exact hok.out q hq
  · by_cases e : q = i
    · subst e
      simp only [updF_same, List.length_set]
      exact (h2 q).2
    · simp only [updF_other _ _ e]
      exact (h2 q).2
  · by_cases e : q = i
    · subst e
      simp only [updF_same, List.length_set]
      have hr := h.row q
      rw [hV, hk] at hr
      rw [hV, hk]
      exact owns_set hr (hok.wrs q) hk.symm (by omega) hs
    · simp only [updF_other _ _ e]
      exact (h.row q).kept hg (by
        cases hv : (V q).ownBlock with
        | none => exact Or.inl rfl
        | some b => exact Or.inr fun e2 => e (h.own q i b hv (by rw [hob, e2])))
theorem turnedTake {ws : List (List Int)} {bit k : Nat} (hk : k < ws.length) : ((ws.take k).map (turnB · bit) ++ ws.drop k).set k (turnB (ws.getD k zsec) bit) = (ws.take (k + 1)).map (turnB · bit) ++ ws.drop (k + 1) := by
  have h1 : ((ws.take k).map (turnB · bit)).length = k := by simp; omega
  rw [List.set_append_right _ _ (by omega), h1, Nat.sub_self, List.take_succ_eq_append_getElem hk, List.drop_eq_getElem_cons hk, List.set_cons_zero, List.map_append, List.append_assoc, List.getD_eq_getElem?_getD, List.getElem?_eq_getElem hk]
  rfl
def turnD (D : AD) (i bit k : Nat) : AD := { D with la := D.la.set i (turnB (D.la.getD i zsec) bit), wr := updF D.wr i (((D.wr i).take k).map (turnB · bit) ++ (D.wr i).drop k) }
theorem turnD_len (D : AD) (i bit k : Nat) (hk : k ≤ (D.wr i).length) : ((turnD D i bit k).wr i).length = (D.wr i).length := by simp [turnD, updF_same]; omega
theorem turnD_zero (D : AD) (i bit : Nat) : turnD D i bit 0 = { D with la := D.la.set i (turnB (D.la.getD i zsec) bit) } := by
  unfold turnD
  have : updF D.wr i (((D.wr i).take 0).map (turnB · bit) ++ (D.wr i).drop 0) = D.wr := by
    funext q
    by_cases e : q = i
    · subst e; rw [updF_same]; simp
    · rw [updF_other _ _ e]
  rw [this]
theorem turnD_all (D : AD) (i bit : Nat) : turnD D i bit (D.wr i).length = D.turn i bit := by
  unfold turnD AD.turn
  simp
theorem turnD_step (D : AD) (i bit k : Nat) (hk : k < (D.wr i).length) : { turnD D i bit k with wr := updF (turnD D i bit k).wr i (((turnD D i bit k).wr i).set k (turnB ((D.wr i).getD k zsec) bit)) } = turnD D i bit (k + 1) := by
  have h1 : (turnD D i bit k).wr i = ((D.wr i).take k).map (turnB · bit) ++ (D.wr i).drop k := by simp [turnD, updF_same]
  have e : ∀ X, updF (turnD D i bit k).wr i X = updF D.wr i X := fun X => by
    funext q
    by_cases e : q = i
    · subst e; rw [updF_same, updF_same]
    · rw [updF_other _ _ e, updF_other _ _ e]
      unfold turnD
      exact updF_other _ _ e
  rw [h1, turnedTake hk, e]
  rfl
theorem turnD_get (D : AD) (i bit k : Nat) (hk : k < (D.wr i).length) : ((turnD D i bit k).wr i).getD k zsec = (D.wr i).getD k zsec := by
  have h1 : (turnD D i bit k).wr i = ((D.wr i).take k).map (turnB · bit) ++ (D.wr i).drop k := by simp [turnD, updF_same]
  have h2 : (((D.wr i).take k).map (turnB · bit)).length = k := by simp; omega
  rw [h1, List.getD_eq_getElem?_getD, List.getElem?_append_right (by omega), h2, Nat.sub_self, List.getElem?_drop, Nat.add_zero, List.getD_eq_getElem?_getD]
end Go.Proofs.YthhjlopgpmaokabDoor
