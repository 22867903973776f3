/- One sector as a slice of sectors. -/
import Derived.Test.YtfgjhlnaaopdeabDkR
namespace Go.Proofs.Ytfgjhlnaaopdeab
open Go.RowKit Go.Maps

theorem fold_at : ∀ (cs : List Value) (k : Nat) (z : Array Value), k + cs.length ≤ z.size → ((cs.zipIdx k).foldl (fun a p => a.setIfInBounds (0 + p.2) p.1) z).size = z.size ∧ ∀ q, ((cs.zipIdx k).foldl (fun a p => a.setIfInBounds (0 + p.2) p.1) z)[q]? = if k ≤ q ∧ q < k + cs.length then cs[q - k]? else z[q]?
  | [], k, z, _ => ⟨rfl, fun q => by rw [if_neg (by rw [List.length_nil]; omega)]; rfl⟩
  | c :: t, k, z, h => by
    simp only [List.length_cons] at h
    obtain ⟨h1, h2⟩ := fold_at t (k + 1) (z.setIfInBounds (0 + k) c) (by simp; omega)
    rw [List.zipIdx_cons, List.foldl_cons]
    refine ⟨by rw [h1]; simp, fun q => ?_⟩
    rw [h2 q]
    by_cases hq : q = k
    · subst hq
      have hqs : q < z.size := by omega
      rw [if_neg (by omega), if_pos (by simp), Nat.sub_self]
      simp [hqs]
    · by_cases hc : k + 1 ≤ q ∧ q < k + 1 + t.length
      · rw [if_pos hc, if_pos (by simp; omega), show q - k = (q - (k + 1)) + 1 by omega]
        simp
      · rw [if_neg hc, if_neg (by simp; omega), Array.getElem?_setIfInBounds_ne (by omega)]
theorem fold_all (cs : List Value) (z : Array Value) (h : z.size = cs.length) : cs.toArray.zipIdx.foldl (fun a p => a.setIfInBounds (0 + p.2) p.1) z = cs.toArray := by
  have hf := fold_at cs 0 z (by omega)
  have e : cs.toArray.zipIdx.foldl (fun a p => a.setIfInBounds (0 + p.2) p.1) z = (cs.zipIdx 0).foldl (fun a p => a.setIfInBounds (0 + p.2) p.1) z := by
    rw [← Array.foldl_toList]
    simp
  rw [e]
  apply Array.ext_getElem?
  intro q
  rw [hf.2 q]
  by_cases hq : q < cs.length
  · rw [if_pos (by omega)]; simp
  · rw [if_neg (by omega), Array.getElem?_eq_none (by omega), Array.getElem?_eq_none (by simpa using hq)]
theorem build_one {cs : List Value} (hl : cs.length = 512) (W : World) : (Instr.buildSlice 72 1 #[(0, .agg cs.toArray)]).run Try.prog W = .ok (.slice (some ⟨W.heap.size, 0, none⟩) 1 1) (W.alloc (.cells cs.toArray 77)) := by
  obtain ⟨i0, hi0, hz0, hz1, hz2⟩ := info_parts infoS
  have hzl : (List.replicate 512 (Value.int IntKind.u8 0)).toArray.size = 512 := by rw [List.size_toArray, List.length_replicate]
  generalize (List.replicate 512 (Value.int IntKind.u8 0)).toArray = zz at hz0 hzl
  have hzero : (zeroValue 77).run Try.prog W = .ok (.agg zz) W := by
    simp [zeroValue, typeInfo, hi0, hz0]
  have hsize : (sizeOf 77).run Try.prog W = .ok 512 W := by
    simp [sizeOf, typeInfo, hi0, hz1]
  have hfill : ∀ z : Array Value, z.size = 512 → Instr.fill (fun i => some (i * 512, 512)) z [(0, .agg cs.toArray)] = some cs.toArray := fun z hz => by
    have h1 : (Value.agg cs.toArray).cells = cs.toArray := rfl
    unfold Instr.fill
    simp only [h1, Nat.zero_mul]
    rw [if_neg (by simp [hl, hz])]
    rw [fold_all cs z (by omega)]
    rfl
  have hms : ((Array.range (1 * 512)).map (zz[· % zz.size]!)).size = 512 := by simp
  unfold Instr.buildSlice
  rw [Sem.run_bind, run_underlying Try.underlying72 W]
  simp only [Result.andThen_ok, Sem.run_bind, hsize]
  rw [if_neg (by decide), if_neg (by decide), Sem.run_bind, hzero, Result.andThen_ok, Sem.run_bind, Sem.run_pure, Result.andThen_ok]
  have hc : (Value.agg zz).cells = zz := rfl
  rw [hc]
  generalize (Array.range (1 * 512)).map (fun x => zz[x % zz.size]!) = z2 at hms
  rw [hfill z2 hms]
  rfl
section
variable {ops : Array Oper} {o : Oper} {a : Act} {w : World} {K : Act → World → Prop} {Q : Exit → Act → World → Prop} {E : Prop}
theorem step_look (hgd : o.guard = none) (m x : Operand) (t : TypeId) (ho : o.op = .lookup t m x false) {b : Nat} {key v : Value} (hm : a.eval m = .map (some b)) (hx : a.eval x = key) (hrun : (Instr.lookup t (.map (some b)) key false).run Try.prog w = .ok v w)
    (hk : K (a.put o.dst v) w) : if Region.wanted o (yielded ops a.tmps) = true then Oper.wp Try.prog o a w K Q else E := by
  have hw : Region.wanted o (yielded ops a.tmps) = true := by simp [Region.wanted, hgd]
  rw [if_pos hw]
  unfold Oper.wp execOp
  simp only [ho, hm, hx, Sem.run_bind, hrun, Result.andThen_ok, Sem.run_pure]
  exact hk
theorem step_build (hgd : o.guard = none) (x : Operand) (ho : o.op = .buildSlice 72 1 #[(0, x)]) {cs : List Value} (hx : a.eval x = .agg cs.toArray) (hl : cs.length = 512)
    (hk : K (a.put o.dst (.slice (some ⟨w.heap.size, 0, none⟩) 1 1)) (w.alloc (.cells cs.toArray 77))) : if Region.wanted o (yielded ops a.tmps) = true then Oper.wp Try.prog o a w K Q else E := by
  have hw : Region.wanted o (yielded ops a.tmps) = true := by simp [Region.wanted, hgd]
  rw [if_pos hw]
  unfold Oper.wp execOp
  simp only [ho, List.map_toArray, List.map_cons, List.map_nil, hx, Sem.run_bind, build_one hl w, Result.andThen_ok, Sem.run_pure]
  exact hk
theorem step_mapRun (hgd : o.guard = none) (m x y : Operand) (t : TypeId) (ho : o.op = .mapUpdate t m x y) {b : Nat} {key v : Value} {w' : World} (hm : a.eval m = .map (some b)) (hx : a.eval x = key) (hy : a.eval y = v) (hrun : (Instr.mapUpdate t (.map (some b)) key v).run Try.prog w = .ok () w')
    (hk : K (a.put o.dst undef) w') : if Region.wanted o (yielded ops a.tmps) = true then Oper.wp Try.prog o a w K Q else E := by
  have hw : Region.wanted o (yielded ops a.tmps) = true := by simp [Region.wanted, hgd]
  rw [if_pos hw]
  unfold Oper.wp execOp
  simp only [ho, hm, hx, hy, Sem.run_bind, hrun, Result.andThen_ok, Sem.run_pure]
  exact hk
end
end Go.Proofs.Ytfgjhlnaaopdeab
