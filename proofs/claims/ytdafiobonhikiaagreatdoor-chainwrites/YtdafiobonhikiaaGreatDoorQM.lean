/- What Read answers. One sector as a slice of sectors. -/
import Derived.Test.YtdafiobonhikiaaGreatDoorQL
namespace Go.Proofs.YtdafiobonhikiaaGreatDoor
open Go.RowKit Go.Maps

theorem keyI : Keyed Tryz.prog 3 := int_keyed Tryz.underlying3
theorem zeroSl (w : World) : (zeroValue 120).run Tryz.prog w = .ok (.slice none 0 0) w := by kernel_rfl
theorem wfI {i : Int} (h : -9223372036854775808 ≤ i) (h2 : i ≤ 9223372036854775807) : (Lit.int .i64 i).wf = true := WalkArith.wf_i64 (by omega)
theorem Dk.look {w : World} {p gl gm : Nat} {V : Nat → Value} {D : AD} (h : Dk w p gl gm V D) {i : Nat} (hi : i ≤ 9223372036854775807) : (Instr.lookup 121 (.map (some gm)) (.int .i64 (i : Int)) false).run Tryz.prog w = .ok (V i) w := by
  obtain ⟨M, hM, h2, _⟩ := h.map
  obtain ⟨v, ps, hrun, hv⟩ := hM.lookup keyI Tryz.underlying121 (zeroSl w) (zd := .held (.slice none 0 0)) (zp := []) rfl (keyOf_int_mk Tryz.underlying3 (wfI (i := (i : Int)) (by omega) (by omega)))
  rw [(h2 i).1] at hv
  unfold RV at hv
  simp only [Option.some.injEq, Prod.mk.injEq, DataW.held.injEq] at hv
  rw [hrun, hv.1]
section
variable {ops : Array Oper} {rest : List Oper} {o : Oper} {a : Act} {Q : Exit → Act → World → Prop} {w : World}
theorem wpList_lookRun (hgd : o.guard = none) (m x : Operand) (t : TypeId) (ho : o.op = .lookup t m x false) {b : Nat} {key v : Value} (hm : a.eval m = .map (some b)) (hx : a.eval x = key) (hrun : (Instr.lookup t (.map (some b)) key false).run Tryz.prog w = .ok v w)
    (hk : wpList Tryz.prog ops Q rest (a.put o.dst v) w) : wpList Tryz.prog ops Q (o :: rest) a w := by
  refine wpList_plain hgd fun K hK => ?_
  unfold Oper.wp execOp
  simp only [ho, hm, hx, Sem.run_bind, hrun, Result.andThen_ok, Sem.run_pure]
  exact hK _ _ hk
end
theorem grown_cell (w : World) (g o : Nat) (v : Value) : w.grownBy (w.setCell ⟨g, o, none⟩ v) (some g) := ⟨rfl, rfl, rfl, by simp, fun k _ hk => Below.heap_setCell w ⟨g, o, none⟩ v k (fun e => hk (by rw [e]))⟩
theorem dk_read {w : World} {p gl gm : Nat} {V : Nat → Value} {D : AD} (h : Dk w p gl gm V D) : Dk (w.setCell ⟨p, 2, none⟩ (.int .i64 (D.rd + 1))) p gl gm V D.read :=
  h.acts (grown_cell w p 2 _) (Int.le_refl _) (h.blk.set 2 _)
set_option maxRecDepth 100000 in
set_option maxHeartbeats 1000000 in
theorem read_lasts {w : World} {p gl gm i : Nat} {V : Nat → Value} {D : AD} (h : Dk w p gl gm V D) (hi : i < D.la.length) (hr0 : 0 ≤ D.rd) (hr1 : D.rd ≤ 1152921504606846976) (hw : D.wr i = []) :
    Calls Tryz.prog 33 #[.pointer (some ⟨p, 0, none⟩), .int .i64 (i : Int)] w fun e w' => e = .returned (.tuple #[.slice (some ⟨w.heap.size, 0, none⟩) 512 512, .int .i64 0]) ∧
      w' = (w.setCell ⟨p, 2, none⟩ (.int .i64 (D.rd + 1))).alloc (.cells (u8V (D.now i)).toArray 119) := by
  have hD1 := dk_read h
  have hlen := h.ok.hi
  obtain ⟨c0, c1, c2, c3, c4⟩ := h.cells
  have hf2 := h.frozen 2
  have hO := hide (outside_in (i := i) c0 hi)
  have hlook := hD1.look (i := i) (by omega)
  obtain ⟨a, c, hV⟩ : ∃ a c, V i = .slice a 0 c := by
    rcases (h.row i).2 with ⟨hv, _⟩ | ⟨g', cap', cur, hv, _⟩
    · exact ⟨_, _, hv⟩
    · exact ⟨_, _, by rw [hv, hw]; rfl⟩
  rw [hV] at hlook
  have hnow : D.now i = D.la.getD i zsec := by unfold AD.now; rw [hw]; rfl
  have hsec : IsSec (D.la.getD i zsec) := hnow ▸ h.ok.now hi
  have hrange := owns_range hD1.las h.ok.las (i := i) hi
  rw [hnow]
  have hrange' : (w.setCell ⟨p, 2, none⟩ (.int .i64 (D.rd + 1))).rangeAt gl (i * 512) (u8V (D.la.getD i zsec)) := hrange
  have hsl : (u8V (D.la.getD i zsec)).length = 512 := by rw [u8V_len]; exact hsec.1
  have hinf : (Tryz.prog.info? 119).map (·.size) = some (u8V (D.la.getD i zsec)).length := by rw [hsl]; kernel_rfl
  have hBy := fun W => hide (bytes_calls (w := W) (cs := u8V (D.la.getD i zsec)))
  have hne := h.p_gl
  clear hrange hnow hsec hV hw hD1
  generalize u8V (D.la.getD i zsec) = cs at *
  generalize hn : D.la.length = n at *
  generalize D.rd = rd at *
  go_enter Tryz.func33, Tryz.ntmps33
  go_wp2_with (first
    | (go_at_call 66; refine (unhide hO).mono ?_; rintro e w1 ⟨rfl, rfl⟩)
    | (at_lookup; refine wpList_lookRun rfl _ _ 121 rfl rfl rfl hlook ?_)
    | (refine wpList_load_mid rfl 119 (.tmp 40) rfl gl (i * 512) rfl cs (.array 512 5) hrange' Tryz.underlying119 rfl hinf ?_)
    | (go_at_call 67; refine (unhide (hBy _)).mono ?_; rintro e w2 ⟨rfl, rfl⟩))
  go_ret2
  exact ⟨by simp, rfl⟩
theorem Dk.rowAt {w : World} {p gl gm : Nat} {V : Nat → Value} {D : AD} (h : Dk w p gl gm V D) {i k : Nat} (hk : (D.wr i).length = k + 1) : ∃ g cap, V i = .slice (some ⟨g, 0, none⟩) (k + 1) cap ∧ k + 1 ≤ cap ∧ cap ≤ 9223372036854775807 ∧ w.ownsRow 0 119 512 (.slice (some ⟨g, 0, none⟩) (k + 1) cap) (k + 1) (secV (D.wr i)) := by
  have hr := h.row i
  rcases hr.2 with ⟨_, h0⟩ | ⟨g', cap', cur, hv, _, _, hle, hm, _⟩
  · omega
  · rw [hk] at hv
    rw [hk, hv] at hr
    exact ⟨g', cap', hv, by omega, by simpa [maxLen] using hm, hr⟩
set_option maxRecDepth 100000 in
set_option maxHeartbeats 1000000 in
theorem read_cached {w : World} {p gl gm i k : Nat} {V : Nat → Value} {D : AD} (h : Dk w p gl gm V D) (hi : i < D.la.length) (hr0 : 0 ≤ D.rd) (hr1 : D.rd ≤ 1152921504606846976) (hw : (D.wr i).length = k + 1) :
    Calls Tryz.prog 33 #[.pointer (some ⟨p, 0, none⟩), .int .i64 (i : Int)] w fun e w' => e = .returned (.tuple #[.slice (some ⟨w.heap.size, 0, none⟩) 512 512, .int .i64 0]) ∧
      w' = (w.setCell ⟨p, 2, none⟩ (.int .i64 (D.rd + 1))).alloc (.cells (u8V (D.now i)).toArray 119) := by
  have hD1 := dk_read h
  have hlen := h.ok.hi
  obtain ⟨c0, c1, c2, c3, c4⟩ := h.cells
  have hf2 := h.frozen 2
  have hO := hide (outside_in (i := i) c0 hi)
  have hlook := hD1.look (i := i) (by omega)
  obtain ⟨g, c, hV, hkc, hcm, hrow⟩ := hD1.rowAt (i := i) (k := k) hw
  rw [hV] at hlook
  have hnow : D.now i = (D.wr i).getD k zsec := by
    have hk : k < (D.wr i).length := by omega
    have e : (D.wr i).getD k zsec = (D.wr i)[k] := by rw [List.getD_eq_getElem?_getD, List.getElem?_eq_getElem hk]; rfl
    unfold AD.now
    rw [e, List.getLast?_eq_getElem?, hw, Nat.add_sub_cancel, List.getElem?_eq_getElem hk]
    rfl
  have hsec : IsSec ((D.wr i).getD k zsec) := hnow ▸ h.ok.now hi
  have hrange' : (w.setCell ⟨p, 2, none⟩ (.int .i64 (D.rd + 1))).rangeAt g (k * 512) (u8V ((D.wr i).getD k zsec)) := owns_range hrow (h.ok.wrs i) (i := k) (show k < (D.wr i).length by omega)
  rw [hnow]
  have hsl : (u8V ((D.wr i).getD k zsec)).length = 512 := by rw [u8V_len]; exact hsec.1
  have hinf : (Tryz.prog.info? 119).map (·.size) = some (u8V ((D.wr i).getD k zsec)).length := by rw [hsl]; kernel_rfl
  have hBy := fun W => hide (bytes_calls (w := W) (cs := u8V ((D.wr i).getD k zsec)))
  clear hnow hsec hV hw hD1 hrow
  generalize u8V ((D.wr i).getD k zsec) = cs at *
  generalize hn : D.la.length = n at *
  generalize D.rd = rd at *
  go_enter Tryz.func33, Tryz.ntmps33
  go_wp2_with (first
    | (go_at_call 66; refine (unhide hO).mono ?_; rintro e w1 ⟨rfl, rfl⟩)
    | (at_lookup; refine wpList_lookRun rfl _ _ 121 rfl rfl rfl hlook ?_)
    | (refine wpList_load_mid rfl 119 (.tmp 32) rfl g (k * 512) rfl cs (.array 512 5) hrange' Tryz.underlying119 rfl hinf ?_)
    | (go_at_call 67; refine (unhide (hBy _)).mono ?_; rintro e w2 ⟨rfl, rfl⟩))
  go_ret2
  exact ⟨by simp, rfl⟩
set_option maxRecDepth 100000 in
set_option maxHeartbeats 1000000 in
theorem read_bad {w : World} {p gl n cap : Nat} {x : Int} (hc : w.cell? ⟨p, 0, none⟩ = some (.slice (some ⟨gl, 0, none⟩) n cap)) (hx : x < 0 ∨ (n : Int) ≤ x) :
    Calls Tryz.prog 33 #[.pointer (some ⟨p, 0, none⟩), .int .i64 x] w fun e w' => e = .returned (.tuple #[.slice none 0 0, .int .i64 31]) ∧ w' = w := by
  have hO := hide (outside_out (x := x) hc hx)
  clear hx
  go_enter Tryz.func33, Tryz.ntmps33
  go_wp2_with (go_at_call 66; refine (unhide hO).mono ?_; rintro e w1 ⟨rfl, rfl⟩)
  go_ret2
  exact ⟨rfl, rfl⟩
/-- What Read answers: the sector in memory of its own. -/
theorem read_calls {w : World} {p gl gm i : Nat} {V : Nat → Value} {D : AD} (h : Dk w p gl gm V D) (hi : i < D.la.length) (hr0 : 0 ≤ D.rd) (hr1 : D.rd ≤ 1152921504606846976) :
    Calls Tryz.prog 33 #[.pointer (some ⟨p, 0, none⟩), .int .i64 (i : Int)] w fun e w' => ∃ g, e = .returned (.tuple #[.slice (some ⟨g, 0, none⟩) 512 512, .int .i64 0]) ∧
      w.heap.size ≤ g ∧ Arr w' g 119 (u8V (D.now i)) ∧ Dk w' p gl gm V D.read ∧ w.grownBy w' (some p) := by
  have hfin : ∀ w', w' = (w.setCell ⟨p, 2, none⟩ (.int .i64 (D.rd + 1))).alloc (.cells (u8V (D.now i)).toArray 119) → w.heap.size ≤ w.heap.size ∧ Arr w' w.heap.size 119 (u8V (D.now i)) ∧ Dk w' p gl gm V D.read ∧ w.grownBy w' (some p) := by
    rintro w' rfl
    have h1 := Arr.new (w.setCell ⟨p, 2, none⟩ (.int .i64 (D.rd + 1))) (u8V (D.now i)) 119
    have e1 : (w.setCell ⟨p, 2, none⟩ (.int .i64 (D.rd + 1))).heap.size = w.heap.size := by simp
    rw [e1] at h1
    refine ⟨Nat.le_refl _, h1, (dk_read h).below ((Below.refl _ _).alloc (Nat.le_refl _) _), (grown_cell w p 2 _).trans (World.grownBy_alloc _ _ _)⟩
  cases hw : (D.wr i).length with
  | zero =>
    refine (read_lasts h hi hr0 hr1 (List.eq_nil_of_length_eq_zero hw)).mono ?_
    rintro e w' ⟨rfl, hw'⟩
    exact ⟨_, rfl, hfin w' hw'⟩
  | succ k =>
    refine (read_cached h hi hr0 hr1 hw).mono ?_
    rintro e w' ⟨rfl, hw'⟩
    exact ⟨_, rfl, hfin w' hw'⟩
end Go.Proofs.YtdafiobonhikiaaGreatDoor

namespace Go.Proofs.YtdafiobonhikiaaGreatDoor
open Go.RowKit Go.Maps

theorem fold_at : ∀ (cs : List Value) (k : Nat) (z : Array Value), k + cs.length ≤ z.size → ((cs.zipIdx k).foldl (fun a p => a.setIfInBounds (0 + p.2) p.1) z).size = z.size ∧ ∀ q, ((cs.zipIdx k).foldl (fun a p => a.setIfInBounds (0 + p.2) p.1) z)[q]? = if k ≤ q ∧ q < k + cs.length then cs[q - k]? else z[q]?
  | [], k, z, _ => ⟨rfl, fun q => by rw [if_neg (by rw [List.length_nil]; omega)]; rfl⟩
  | c :: t, k, z, h => by
    simp only [List.length_cons] at h
    obtain ⟨h1, h2⟩ := fold_at t (k + 1) (z.setIfInBounds (0 + k) c) (by simp; omega)
    rw [List.zipIdx_cons, List.foldl_cons]
    refine ⟨by rw [h1]; simp, fun q => ?_⟩
    rw [h2 q]
    by_cases hq : q = k
    · subst hq
      have hqs : q < z.size := by omega
      rw [if_neg (by omega), if_pos (by simp), Nat.sub_self]
      simp [hqs]
    · by_cases hc : k + 1 ≤ q ∧ q < k + 1 + t.length
      · rw [if_pos hc, if_pos (by simp; omega), show q - k = (q - (k + 1)) + 1 by omega]
        simp
      · rw [if_neg hc, if_neg (by simp; omega), Array.getElem?_setIfInBounds_ne (by omega)]
theorem fold_all (cs : List Value) (z : Array Value) (h : z.size = cs.length) : cs.toArray.zipIdx.foldl (fun a p => a.setIfInBounds (0 + p.2) p.1) z = cs.toArray := by
  have hf := fold_at cs 0 z (by omega)
  have e : cs.toArray.zipIdx.foldl (fun a p => a.setIfInBounds (0 + p.2) p.1) z = (cs.zipIdx 0).foldl (fun a p => a.setIfInBounds (0 + p.2) p.1) z := by
    rw [← Array.foldl_toList]
    simp
  rw [e]
  apply Array.ext_getElem?
  intro q
  rw [hf.2 q]
  by_cases hq : q < cs.length
  · rw [if_pos (by omega)]; simp
  · rw [if_neg (by omega), Array.getElem?_eq_none (by omega), Array.getElem?_eq_none (by simpa using hq)]
theorem build_one {cs : List Value} (hl : cs.length = 512) (W : World) : (Instr.buildSlice 120 1 #[(0, .agg cs.toArray)]).run Tryz.prog W = .ok (.slice (some ⟨W.heap.size, 0, none⟩) 1 1) (W.alloc (.cells cs.toArray 119)) := by
  obtain ⟨i0, hi0, hz0, hz1, hz2⟩ := info_parts infoS
  have hzl : (List.replicate 512 (Value.int IntKind.u8 0)).toArray.size = 512 := by rw [List.size_toArray, List.length_replicate]
  generalize (List.replicate 512 (Value.int IntKind.u8 0)).toArray = zz at hz0 hzl
  have hzero : (zeroValue 119).run Tryz.prog W = .ok (.agg zz) W := by
    simp [zeroValue, typeInfo, hi0, hz0]
  have hsize : (sizeOf 119).run Tryz.prog W = .ok 512 W := by
    simp [sizeOf, typeInfo, hi0, hz1]
  have hfill : ∀ z : Array Value, z.size = 512 → Instr.fill (fun i => some (i * 512, 512)) z [(0, .agg cs.toArray)] = some cs.toArray := fun z hz => by
    have h1 : (Value.agg cs.toArray).cells = cs.toArray := rfl
    unfold Instr.fill
    simp only [h1, Nat.zero_mul]
    rw [if_neg (by simp [hl, hz])]
    rw [fold_all cs z (by omega)]
    rfl
  have hms : ((Array.range (1 * 512)).map (zz[· % zz.size]!)).size = 512 := by simp
  unfold Instr.buildSlice
  rw [Sem.run_bind, run_underlying Tryz.underlying120 W]
  simp only [Result.andThen_ok, Sem.run_bind, hsize]
  rw [if_neg (by decide), if_neg (by decide), Sem.run_bind, hzero, Result.andThen_ok, Sem.run_bind, Sem.run_pure, Result.andThen_ok]
  have hc : (Value.agg zz).cells = zz := rfl
  rw [hc]
  generalize (Array.range (1 * 512)).map (fun x => zz[x % zz.size]!) = z2 at hms
  rw [hfill z2 hms]
  rfl
section
variable {ops : Array Oper} {o : Oper} {a : Act} {w : World} {K : Act → World → Prop} {Q : Exit → Act → World → Prop} {E : Prop}
theorem step_look (hgd : o.guard = none) (m x : Operand) (t : TypeId) (ho : o.op = .lookup t m x false) {b : Nat} {key v : Value} (hm : a.eval m = .map (some b)) (hx : a.eval x = key) (hrun : (Instr.lookup t (.map (some b)) key false).run Tryz.prog w = .ok v w)
    (hk : K (a.put o.dst v) w) : if Region.wanted o (yielded ops a.tmps) = true then Oper.wp Tryz.prog o a w K Q else E := by
  have hw : Region.wanted o (yielded ops a.tmps) = true := by simp [Region.wanted, hgd]
  rw [if_pos hw]
  unfold Oper.wp execOp
  simp only [ho, hm, hx, Sem.run_bind, hrun, Result.andThen_ok, Sem.run_pure]
  exact hk
theorem step_build (hgd : o.guard = none) (x : Operand) (ho : o.op = .buildSlice 120 1 #[(0, x)]) {cs : List Value} (hx : a.eval x = .agg cs.toArray) (hl : cs.length = 512)
    (hk : K (a.put o.dst (.slice (some ⟨w.heap.size, 0, none⟩) 1 1)) (w.alloc (.cells cs.toArray 119))) : if Region.wanted o (yielded ops a.tmps) = true then Oper.wp Tryz.prog o a w K Q else E := by
  have hw : Region.wanted o (yielded ops a.tmps) = true := by simp [Region.wanted, hgd]
  rw [if_pos hw]
  unfold Oper.wp execOp
  simp only [ho, List.map_toArray, List.map_cons, List.map_nil, hx, Sem.run_bind, build_one hl w, Result.andThen_ok, Sem.run_pure]
  exact hk
theorem step_mapRun (hgd : o.guard = none) (m x y : Operand) (t : TypeId) (ho : o.op = .mapUpdate t m x y) {b : Nat} {key v : Value} {w' : World} (hm : a.eval m = .map (some b)) (hx : a.eval x = key) (hy : a.eval y = v) (hrun : (Instr.mapUpdate t (.map (some b)) key v).run Tryz.prog w = .ok () w')
    (hk : K (a.put o.dst undef) w') : if Region.wanted o (yielded ops a.tmps) = true then Oper.wp Tryz.prog o a w K Q else E := by
  have hw : Region.wanted o (yielded ops a.tmps) = true := by simp [Region.wanted, hgd]
  rw [if_pos hw]
  unfold Oper.wp execOp
  simp only [ho, hm, hx, hy, Sem.run_bind, hrun, Result.andThen_ok, Sem.run_pure]
  exact hk
end
end Go.Proofs.YtdafiobonhikiaaGreatDoor
