/- What Write answers. -/
import Derived.Test.YthhjlopgpmaokabDoorKF
import Derived.Deep.RegionHeld3
namespace Go.Proofs.YthhjlopgpmaokabDoor
open Go.RowKit Go.Maps

theorem grown_refl (w : World) (row : Option Nat) : w.grownBy w row := ⟨rfl, rfl, rfl, Nat.le_refl _, fun _ _ _ => rfl⟩
theorem grown_drew {a w : World} {row : Option Nat} (h : a.grownBy w row) : a.grownBy w.drew row := ⟨h.os, h.tape, h.output, h.size, h.block⟩
theorem grown_lit {a w : World} {row : Option Nat} (h : a.grownBy w row) (o : Obj) : a.grownBy (w.alloc o) row := h.trans (World.grownBy_alloc _ _ _)
theorem grown_undrew {w w' : World} {row : Option Nat} (h : w.drew.grownBy w' row) : w.grownBy w' row := ⟨h.os, h.tape, h.output, h.size, h.block⟩
/-- A slice of bytes reads its cells from some place on. -/
theorem IsB.range {w : World} {v : Value} {s : List Int} (h : IsB w v s) (hp : 0 < s.length) : ∃ b o cap, v = .slice (some ⟨b, o, none⟩) s.length cap ∧ s.length ≤ cap ∧ cap ≤ 9223372036854775807 ∧ w.rangeAt b o (u8V s) ∧ b < w.heap.size := by
  obtain ⟨_, a, cap, rfl, hl, hm, _, hc⟩ := h
  obtain ⟨b, o, rfl, hcell⟩ := hc hp
  refine ⟨b, o, cap, rfl, hl, hm, fun j v hv => ?_, World.block_lt_of_cell? w _ (hcell 0 hp)⟩
  unfold u8V at hv
  rw [List.getElem?_map] at hv
  obtain ⟨x, hx, rfl⟩ := Option.map_eq_some_iff.1 hv
  have hj := (List.getElem?_eq_some_iff.1 hx).1
  rw [hcell j hj, List.getD_eq_getElem?_getD, hx]
  rfl
theorem range_of_block {w w' : World} {b o : Nat} {cs : List Value} (h : w.rangeAt b o cs) (hb : w'.heap[b]? = w.heap[b]?) : w'.rangeAt b o cs := fun j v hv => (World.cell?_of_block (a := ⟨b, o + j, none⟩) hb).trans (h j v hv)
theorem map_look {w : World} {gm n i : Nat} {M : DataW Value} {v : Value} (hM : w.ownsMap Tryd.prog 3 RV gm n M) (h2 : M.atKey (.int .i64 (i : Int)) (.held (.slice none 0 0)) = .held v) (hi : i ≤ 9223372036854775807) : (Instr.lookup 87 (.map (some gm)) (.int .i64 (i : Int)) false).run Tryd.prog w = .ok v w := by
  obtain ⟨v', ps, hrun, hv⟩ := hM.lookup keyI Tryd.underlying87 (zeroSl w) (zd := .held (.slice none 0 0)) (zp := []) rfl (keyOf_int_mk Tryd.underlying3 (wfI (i := (i : Int)) (by omega) (by omega)))
  rw [h2] at hv
  unfold RV at hv
  simp only [Option.some.injEq, Prod.mk.injEq, DataW.held.injEq] at hv
  rw [hrun, hv.1]
theorem owns_form {w : World} {base : Nat} {t : TypeId} {size n : Nat} {v : Value} {xs : List Value} (h : w.ownsRow base t size v n xs) : ∃ a c, v = .slice a n c := by
  rcases h.2 with ⟨rfl, h0⟩ | ⟨g, cap, cur, rfl, _⟩
  · exact ⟨none, 0, by rw [h0]⟩
  · exact ⟨_, cap, rfl⟩
theorem arr_at (a : Option Addr) (c : Nat) (W : World) : (Instr.arrayAt 99 (.slice a 512 c)).run Tryd.prog W = .ok (.pointer a) W := by
  unfold Instr.arrayAt
  rw [Sem.run_bind, run_underlying Tryd.underlying99 W]
  rfl
theorem dk_wrote {w : World} {p gl gm : Nat} {V : Nat → Value} {D : AD} (h : Dk w p gl gm V D) : Dk (w.setCell ⟨p, 3, none⟩ (.int .i64 (D.wt + 1))) p gl gm V { D with wt := D.wt + 1 } :=
  h.acts (grown_cell w p 3 _) (by omega) (h.blk.set 3 _)
/-- A write joins the others of its sector. -/
theorem Dk.joined {w w6 w7 : World} {p gl gm i g6 c6 : Nat} {V : Nat → Value} {D : AD} {s : List Int} (h : Dk w p gl gm V { D with wt := D.wt + 1 }) (h0 : 0 ≤ D.wt) (hi : i < D.la.length) (hs : IsSec s) (hg6 : w.grownBy w6 (V i).ownBlock)
    (hr6 : w6.ownsRow 0 99 512 (.slice (some ⟨g6, 0, none⟩) ((D.wr i).length + 1) c6) ((D.wr i).length + 1) (secV (D.wr i) ++ u8V s)) (hat : (V i).ownBlock = some g6 ∨ w.heap.size ≤ g6)
    (hg7 : w6.grownBy w7 (some gm)) (hM : ∀ M : DataW Value, w6.ownsMap Tryd.prog 3 RV gm D.wt.toNat M → w7.ownsMap Tryd.prog 3 RV gm (D.wt.toNat + 1) (M.put (.int .i64 (i : Int)) (.held (.slice (some ⟨g6, 0, none⟩) ((D.wr i).length + 1) c6)))) 
    (hold : ∃ M : DataW Value, w.ownsMap Tryd.prog 3 RV gm D.wt.toNat M ∧ (∀ i : Nat, M.atKey (.int .i64 (i : Int)) (.held (.slice none 0 0)) = .held (V i) ∧ Maps.has M (.int .i64 (i : Int)) = decide (0 < (D.wr i).length)) ∧ ∀ x : Int, Maps.has M (.int .i64 x) = true → 0 ≤ x) :
    Dk w7 p gl gm (updF V i (.slice (some ⟨g6, 0, none⟩) ((D.wr i).length + 1) c6)) (D.write i s) := by
  have hgne : ∀ b, Ft p gl gm V b → (V i).ownBlock ≠ some b → g6 ≠ b := fun b hb hne e => by
    rcases hat with hat | hat
    · exact hne (by rw [hat, e])
    · have := h.lt hb; omega
  have hgm6 : g6 ≠ gm := hgne gm (Or.inr (Or.inr (Or.inl rfl))) (h.v_gm i)
  have hgl6 : g6 ≠ gl := hgne gl (Or.inr (Or.inl rfl)) (h.low i)
  obtain ⟨M, hM0, hM1, hM2⟩ := hold
  have hokw : (D.write i s).Ok := by
    have := h.ok
    exact (AD.Ok.write (D := D) ⟨this.lo, this.hi, this.las, this.wrs, this.out⟩ hi hs)
  have hMm : IsMap M := by obtain ⟨_, _, _, _, _, rfl⟩ := hM0; exact ⟨_, rfl⟩
  have hkk : ∀ x : Int, WideAt.IsKeyLit (.int .i64 x) := fun _ => trivial
  have kp : ∀ (base size : Nat) (v : Value) (n : Nat) (cs : List Value), v.ownBlock ≠ some gm → (v.ownBlock = none ∨ v.ownBlock ≠ (V i).ownBlock) → w.ownsRow base 99 size v n cs → w7.ownsRow base 99 size v n cs := fun base size v n cs h1 h2 hr =>
    (hr.kept hg6 h2).kept hg7 (by cases hv : v.ownBlock with
      | none => exact Or.inl rfl
      | some b => rw [hv] at h1; exact Or.inr h1)
  refine ⟨hokw, ?_, ?_, ⟨M.put (.int .i64 (i : Int)) (.held (.slice (some ⟨g6, 0, none⟩) ((D.wr i).length + 1) c6)), ?_, ?_, ?_⟩, fun j => ?_, ?_, fun j => ?_⟩
  · have e1 : w7.heap[p]? = w.heap[p]? := (hg7.block p (Nat.lt_of_lt_of_le h.blk.lt hg6.size) (by simpa using h.p_gm)).trans (hg6.block p h.blk.lt (h.v_p i).symm)
    exact h.blk.keep e1
  · exact kp _ _ _ _ _ (by simp only [Value.ownBlock, ne_eq, Option.some.injEq]; exact h.gl_gm) (Or.inr (h.low i).symm) h.las
  · have := hM M (hM0.kept hg6 (h.v_gm i).symm)
    exact this.mono (by show D.wt.toNat + 1 ≤ (D.wt + 1).toNat; omega)
  · intro j
    by_cases e : j = i
    · subst e
      rw [updF_same]
      refine ⟨atKey_put_same hMm (hkk _) _ _, ?_⟩
      rw [has_put_same hMm (hkk _)]
      simp [AD.write, updF_same]
    · have hne : (Lit.int .i64 (j : Int)) ≠ (Lit.int .i64 (i : Int)) := by simp; omega
      rw [updF_other _ _ e, atKey_put_other hne, has_put_other hne]
      simp only [AD.write, updF_other _ _ e]
      exact hM1 j
  · intro x hx
    by_cases e : x = (i : Int)
    · omega
    · rw [has_put_other (by simpa using e)] at hx
      exact hM2 x hx
  · by_cases e : j = i
    · subst e
      simp only [AD.write, updF_same]
      have hl : (D.wr j ++ [s]).length = (D.wr j).length + 1 := by simp
      rw [hl, secV_append, secV_single]
      exact hr6.kept hg7 (Or.inr (by simp only [Value.ownBlock, ne_eq, Option.some.injEq]; exact hgm6))
    · simp only [AD.write, updF_other _ _ e]
      refine kp _ _ _ _ _ (h.v_gm j) ?_ (h.row j)
      cases hv : (V j).ownBlock with
      | none => exact Or.inl rfl
      | some b => exact Or.inr fun e2 => e (h.own j i b hv e2.symm)
  · intro j k b hj hk
    by_cases e : j = i
    · by_cases e2 : k = i
      · omega
      · subst e
        rw [updF_same] at hj
        rw [updF_other _ _ e2] at hk
        simp only [Value.ownBlock, Option.some.injEq] at hj
        exact absurd hj (hgne b (Or.inr (Or.inr (Or.inr ⟨k, hk⟩))) (fun e3 => e2 (h.own k j b hk e3)))
    · by_cases e2 : k = i
      · subst e2
        rw [updF_same] at hk
        rw [updF_other _ _ e] at hj
        simp only [Value.ownBlock, Option.some.injEq] at hk
        exact absurd hk (hgne b (Or.inr (Or.inr (Or.inr ⟨j, hj⟩))) (fun e3 => e (h.own j k b hj e3)))
      · rw [updF_other _ _ e] at hj
        rw [updF_other _ _ e2] at hk
        exact h.own j k b hj hk
  · by_cases e : j = i
    · subst e
      rw [updF_same]
      simp only [Value.ownBlock, ne_eq, Option.some.injEq]
      exact hgl6
    · rw [updF_other _ _ e]; exact h.low j
set_option maxRecDepth 100000 in
set_option maxHeartbeats 2000000 in
theorem write_good {w : World} {p gl gm i bb bo bc : Nat} {V : Nat → Value} {D : AD} {s : List Int} (h : Dk w p gl gm V D) (hi : i < D.la.length) (hw0 : 0 ≤ D.wt) (hw1 : D.wt ≤ 1152921504606846976) (hwl : (D.wr i).length ≤ 68719476736) (hs : IsSec s)
    (hb : w.rangeAt bb bo (u8V s)) (hbl : bb < w.heap.size) (hF : ¬ Ft p gl gm V bb) :
    Calls Tryd.prog 67 #[.pointer (some ⟨p, 0, none⟩), .int .i64 (i : Int), .slice (some ⟨bb, bo, none⟩) 512 bc] w fun e w' => e = .returned (.int .i64 0) ∧ ∃ V', Dk w' p gl gm V' (D.write i s) ∧ (∀ b, Ft p gl gm V' b → Ft p gl gm V b ∨ w.heap.size ≤ b) ∧ Up (Ft p gl gm V) w w' := by
  have hD1 := dk_wrote h
  have hlen := h.ok.hi
  obtain ⟨c0, c1, c2, c3, c4⟩ := h.cells
  have hf3 := h.frozen 3
  have hO := hide (outside_in (i := i) c0 hi)
  have hbp : bb ≠ p := fun e => hF (Or.inl e)
  have hsl : (u8V s).length = 512 := by rw [u8V_len]; exact hs.1
  have hinf : (Tryd.prog.info? 99).map (·.size) = some (u8V s).length := by rw [hsl]; kernel_rfl
  obtain ⟨i0, hi0, hz0, hz1, hz2⟩ := info_parts infoS
  have hzs : (Value.agg (List.replicate 512 (Value.int .u8 0)).toArray).cells.size = 512 := by show (List.replicate 512 (Value.int .u8 0)).toArray.size = 512; rw [List.size_toArray, List.length_replicate]
  generalize Value.agg (List.replicate 512 (Value.int .u8 0)).toArray = zz at hz0 hzs
  have hbs := fun W => build_one hsl W
  have e1 : (w.setCell ⟨p, 3, none⟩ (.int .i64 (D.wt + 1))).heap.size = w.heap.size := by simp
  have hg1 := grown_cell w p 3 (.int .i64 (D.wt + 1))
  have hb1 : (w.setCell ⟨p, 3, none⟩ (.int .i64 (D.wt + 1))).rangeAt bb bo (u8V s) := range_of_block hb (hg1.block bb hbl (by simpa using hbp))
  have hold : ∃ M : DataW Value, (w.setCell ⟨p, 3, none⟩ (.int .i64 (D.wt + 1))).ownsMap Tryd.prog 3 RV gm D.wt.toNat M ∧ (∀ i : Nat, M.atKey (.int .i64 (i : Int)) (.held (.slice none 0 0)) = .held (V i) ∧ Maps.has M (.int .i64 (i : Int)) = decide (0 < (D.wr i).length)) ∧ ∀ x : Int, Maps.has M (.int .i64 x) = true → 0 ≤ x := by
    obtain ⟨M, k1, k2, k3⟩ := h.map
    exact ⟨M, k1.kept hg1 (by simpa using h.p_gm.symm), k2, k3⟩
  have hup1 : Up (Ft p gl gm V) w (w.setCell ⟨p, 3, none⟩ (.int .i64 (D.wt + 1))) := Up.of_grown hg1 (fun g hg => Or.inl (by simpa using hg.symm))
  have hbV : (V i).ownBlock ≠ some bb := fun e => hF (Or.inr (Or.inr (Or.inr ⟨i, e⟩)))
  have hlt1 : bb < (w.setCell ⟨p, 3, none⟩ (.int .i64 (D.wt + 1))).heap.size := by rw [e1]; exact hbl
  have hrow : (w.setCell ⟨p, 3, none⟩ (.int .i64 (D.wt + 1))).ownsRow 0 99 512 (V i) (D.wr i).length (secV (D.wr i)) := hD1.row i
  have hvp := h.v_p i
  have hvm := h.v_gm i
  have hpm := h.p_gm
  have hbg : bb ≠ gm := fun e => hF (Or.inr (Or.inr (Or.inl e)))
  obtain ⟨va, vc, hV⟩ := owns_form (show _ from hrow)
  have HS : Hid (∀ W, (w.setCell ⟨p, 3, none⟩ (.int .i64 (D.wt + 1))).grownBy W (V i).ownBlock → W.cell? ⟨p, 1, none⟩ = some (.map (some gm)) ∧ (Instr.lookup 87 (.map (some gm)) (.int .i64 (i : Int)) false).run Tryd.prog W = .ok (.slice va (D.wr i).length vc) W ∧
      W.rangeAt bb bo (u8V s)) := fun W hW => by
    obtain ⟨M, k1, k2, k3⟩ := hold
    refine ⟨hW.cell hD1.cells.2.1 (by simpa using hvp.symm), ?_, range_of_block hb1 (hW.block bb hlt1 (by simpa using hbV.symm))⟩
    exact map_look (k1.kept hW hvm.symm) (by rw [(k2 i).1, hV]) (by omega)
  have hone := u8V_one s
  have HD := hide h
  have HD1 := hide hD1
  have HB := hide hb
  have HOLD := hide hold
  have HR := hide hrow
  have HV := hide hV
  have HSL := hide hsl
  have HW := hide hwl
  have HI := hide hinf
  clear h hD1 hb hold hrow hV hb1 hinf hwl hsl
  generalize hq : D.wt = q at *
  go_enter Tryd.func67, Tryd.ntmps67
  go_wp2_with (first
    | (go_at_call 45; refine (unhide hO).mono ?_; rintro e w1 ⟨rfl, rfl⟩))
  generalize hw2 : w1.setCell ⟨p, 3, none⟩ (.int .i64 (q + 1)) = w2 at *
  have HW2 := hide hw2
  clear hw2
  generalize hcs : u8V s = cs at *
  have HCS := hide hcs
  clear hcs
  generalize hm : (D.wr i).length = m at *
  have HM := hide hm
  clear hm
  have hown2 : w2.ownsRow 0 99 512 (.slice va m vc) m (secV (D.wr i)) := by have := HR.out; rw [HV.out] at this; exact this
  have HOB : Hid ((V i).ownBlock = (Value.slice va m vc).ownBlock) := by rw [HV.out]; exact rfl
  rw [HOB.out] at HS
  have HUP : Hid (∀ W g c, w2.grownBy W (Value.slice va m vc).ownBlock → ∃ w7, (Instr.mapUpdate 87 (.map (some gm)) (.int .i64 (i : Int)) (.slice (some ⟨g, 0, none⟩) (m + 1) c)).run Tryd.prog W = .ok () w7 ∧ W.grownBy w7 (some gm) ∧
      ∀ M : DataW Value, W.ownsMap Tryd.prog 3 RV gm q.toNat M → w7.ownsMap Tryd.prog 3 RV gm (q.toNat + 1) (M.put (.int .i64 (i : Int)) (.held (.slice (some ⟨g, 0, none⟩) (m + 1) c)))) := fun W g c hW => by
    obtain ⟨M, k1, k2, k3⟩ := HOLD.out
    have kW := k1.kept hW (by rw [← HOB.out]; exact hvm.symm)
    obtain ⟨w7, hr, hM7, hg7⟩ := kW.update keyI Tryd.underlying87 (by unfold maxLen; omega) (keyOf_int_mk Tryd.underlying3 (wfI (i := (i : Int)) (by omega) (by omega))) (val := .slice (some ⟨g, 0, none⟩) (m + 1) c) rfl
    refine ⟨w7, hr, hg7, fun M' hM' => ?_⟩
    obtain ⟨es, cl, hb, hF, hs, rfl⟩ := hM'
    obtain ⟨es', cl', hb', hF', hs', rfl⟩ := kW
    rw [hb] at hb'
    simp only [Option.some.injEq, Obj.map.injEq] at hb'
    obtain ⟨rfl, rfl⟩ := hb'
    exact hM7
  have HS2 : Hid (∀ W, w2.grownBy W (Value.slice va m vc).ownBlock → W.cell? ⟨p, 1, none⟩ = some (.map (some gm)) ∧ W.rangeAt bb bo cs) := fun W hW => ⟨(unhide HS W hW).1, (unhide HS W hW).2.2⟩
  have HLK : Hid (∀ W, w2.grownBy W (Value.slice va m vc).ownBlock → (Instr.lookup 87 (.map (some gm)) (.int .i64 (i : Int)) false).run Tryd.prog W = .ok (.slice va m vc) W) := fun W hW => (unhide HS W hW).2.1
  have HS3 : Hid (∀ W W', w2.grownBy W (Value.slice va m vc).ownBlock → W.grownBy W' (some gm) → W'.cell? ⟨p, 1, none⟩ = some (.map (some gm)) ∧ W'.rangeAt bb bo cs) := fun W W' hW hW' =>
    ⟨hW'.cell (unhide HS2 W hW).1 (by simpa using hpm), range_of_block (unhide HS2 W hW).2 (hW'.block bb (Nat.lt_of_lt_of_le hlt1 hW.size) (by simpa using hbg))⟩
  have HFIN : Hid (∀ w6 w7 g6 c6, w6.ownsRow 0 99 512 (.slice (some ⟨g6, 0, none⟩) (m + 1) c6) (m + 1) (secV (D.wr i) ++ cs) → w2.grownBy w6 (Value.slice va m vc).ownBlock → ((Value.slice va m vc).ownBlock = some g6 ∨ g6 = w2.heap.size + 1) → w6.grownBy w7 (some gm) →
      (∀ M : DataW Value, w6.ownsMap Tryd.prog 3 RV gm q.toNat M → w7.ownsMap Tryd.prog 3 RV gm (q.toNat + 1) (M.put (.int .i64 (i : Int)) (.held (.slice (some ⟨g6, 0, none⟩) (m + 1) c6)))) →
      ∃ V', Dk w7 p gl gm V' (D.write i s) ∧ (∀ b, Ft p gl gm V' b → Ft p gl gm V b ∨ w1.heap.size ≤ b) ∧ Up (Ft p gl gm V) w1 w7) := fun w6 w7 g6 c6 hr6 hG6 hat6 hg7 hM7 => by
    have hobs : w2.grownBy w6 (V i).ownBlock := by rw [HOB.out]; exact hG6
    have hat : (V i).ownBlock = some g6 ∨ w2.heap.size ≤ g6 := by rw [HOB.out]; exact hat6.imp id (fun h => by omega)
    obtain rfl := HM.out
    obtain rfl := HCS.out
    have h1 := HD1.out
    subst hq
    refine ⟨updF V i (.slice (some ⟨g6, 0, none⟩) ((D.wr i).length + 1) c6), Dk.joined h1 hw0 hi hs hobs hr6 hat hg7 hM7 HOLD.out, ?_, ?_⟩
    · rintro b (rfl | rfl | rfl | ⟨j, hj⟩)
      · exact Or.inl (Or.inl rfl)
      · exact Or.inl (Or.inr (Or.inl rfl))
      · exact Or.inl (Or.inr (Or.inr (Or.inl rfl)))
      · by_cases e : j = i
        · subst e
          rw [updF_same] at hj
          simp only [Value.ownBlock, Option.some.injEq] at hj
          subst hj
          exact hat.imp (fun h => Or.inr (Or.inr (Or.inr ⟨_, h⟩))) (fun h => by omega)
        · rw [updF_other _ _ e] at hj
          exact Or.inl (Or.inr (Or.inr (Or.inr ⟨j, hj⟩)))
    · refine (hup1.trans (F' := Ft p gl gm V) (Up.of_grown hobs (fun g hg => Or.inr (Or.inr (Or.inr ⟨i, hg⟩)))) (fun _ h => Or.inl h)).trans (F' := Ft p gl gm V) (Up.of_grown hg7 (fun g hg => ?_)) (fun _ h => Or.inl h)
      injection hg with hg
      exact Or.inr (Or.inr (Or.inl hg.symm))
  have HSL2 : Hid (cs.length = 512) := HSL.out
  have harr : ∀ W, (Instr.arrayAt 99 (.slice (some ⟨bb, bo, none⟩) 512 bc)).run Tryd.prog W = .ok (.pointer (some ⟨bb, bo, none⟩)) W := arr_at _ _
  have hinf := HI.out
  have hund := Tryd.underlying99
  clear hO
  refine wp_region_held_drew (S := fun W => W.cell? ⟨p, 1, none⟩ = some (.map (some gm)) ∧ W.rangeAt bb bo cs) (by kernel_rfl) (unhide HS2 _ (grown_drew (grown_refl _ _))) (fun hHeld => ?_)
  refine wpAnyH_take (i := 0) (v := .pointer (some ⟨p, 0, none⟩)) rfl (by kernel_rfl) (by kernel_rfl) (by kernel_rfl) (fun _ _ _ h => h) (Or.inl ⟨by rfl, fun w hSw => by obtain ⟨hSc, _⟩ := hSw; go_simp⟩) (by assumption) ?_
  simp only [List.getElem_toArray, List.getElem_cons_zero, Act.put, List.setIfInBounds_toArray, List.set_cons_zero, List.set_cons_succ]
  refine wpAnyH_take (i := 1) (v := .pointer (some ⟨p, 0, none⟩)) rfl (by kernel_rfl) (by kernel_rfl) (by kernel_rfl) (fun _ _ _ h => h) (Or.inl ⟨by rfl, fun w hSw => by obtain ⟨hSc, _⟩ := hSw; go_simp⟩) (by assumption) ?_
  simp only [List.getElem_toArray, List.getElem_cons_succ, List.getElem_cons_zero, Act.put, List.setIfInBounds_toArray, List.set_cons_zero, List.set_cons_succ]
  refine wpAnyH_take (i := 2) (v := .pointer (some ⟨p, 1, none⟩)) rfl (by kernel_rfl) (by kernel_rfl) (by kernel_rfl) (fun _ _ _ h => h) (Or.inl ⟨by rfl, fun w hSw => by obtain ⟨hSc, _⟩ := hSw; go_simp⟩) (by assumption) ?_
  simp only [List.getElem_toArray, List.getElem_cons_succ, List.getElem_cons_zero, Act.put, List.setIfInBounds_toArray, List.set_cons_zero, List.set_cons_succ]
  refine wpAnyH_take (i := 3) (v := .map (some gm)) rfl (by kernel_rfl) (by kernel_rfl) (by kernel_rfl) (fun _ _ _ h => h) (Or.inl ⟨by rfl, fun w hSw => by obtain ⟨hSc, _⟩ := hSw; go_simp⟩) (by assumption) ?_
  simp only [List.getElem_toArray, List.getElem_cons_succ, List.getElem_cons_zero, Act.put, List.setIfInBounds_toArray, List.set_cons_zero, List.set_cons_succ]
  refine wpAnyH_take (i := 4) (v := .int .i64 (i : Int)) rfl (by kernel_rfl) (by kernel_rfl) (by kernel_rfl) (fun _ _ _ h => h) (Or.inl ⟨by rfl, fun w hSw => by obtain ⟨hSc, _⟩ := hSw; go_simp⟩) (by assumption) ?_
  simp only [List.getElem_toArray, List.getElem_cons_succ, List.getElem_cons_zero, Act.put, List.setIfInBounds_toArray, List.set_cons_zero, List.set_cons_succ]
  refine wpAnyH_take (i := 5) (v := .pointer (some ⟨p, 0, none⟩)) rfl (by kernel_rfl) (by kernel_rfl) (by kernel_rfl) (fun _ _ _ h => h) (Or.inl ⟨by rfl, fun w hSw => by obtain ⟨hSc, _⟩ := hSw; go_simp⟩) (by assumption) ?_
  simp only [List.getElem_toArray, List.getElem_cons_succ, List.getElem_cons_zero, Act.put, List.setIfInBounds_toArray, List.set_cons_zero, List.set_cons_succ]
  refine wpAnyH_take (i := 6) (v := .pointer (some ⟨p, 0, none⟩)) rfl (by kernel_rfl) (by kernel_rfl) (by kernel_rfl) (fun _ _ _ h => h) (Or.inl ⟨by rfl, fun w hSw => by obtain ⟨hSc, _⟩ := hSw; go_simp⟩) (by assumption) ?_
  simp only [List.getElem_toArray, List.getElem_cons_succ, List.getElem_cons_zero, Act.put, List.setIfInBounds_toArray, List.set_cons_zero, List.set_cons_succ]
  refine wpAnyH_take (i := 7) (v := .pointer (some ⟨p, 1, none⟩)) rfl (by kernel_rfl) (by kernel_rfl) (by kernel_rfl) (fun _ _ _ h => h) (Or.inl ⟨by rfl, fun w hSw => by obtain ⟨hSc, _⟩ := hSw; go_simp⟩) (by assumption) ?_
  simp only [List.getElem_toArray, List.getElem_cons_succ, List.getElem_cons_zero, Act.put, List.setIfInBounds_toArray, List.set_cons_zero, List.set_cons_succ]
  refine wpAnyH_take (i := 8) (v := .map (some gm)) rfl (by kernel_rfl) (by kernel_rfl) (by kernel_rfl) (fun _ _ _ h => h) (Or.inl ⟨by rfl, fun w hSw => by obtain ⟨hSc, _⟩ := hSw; go_simp⟩) (by assumption) ?_
  simp only [List.getElem_toArray, List.getElem_cons_succ, List.getElem_cons_zero, Act.put, List.setIfInBounds_toArray, List.set_cons_zero, List.set_cons_succ]
  refine wpAnyH_take (i := 9) (v := .int .i64 (i : Int)) rfl (by kernel_rfl) (by kernel_rfl) (by kernel_rfl) (fun _ _ _ h => h) (Or.inl ⟨by rfl, fun w hSw => by obtain ⟨hSc, _⟩ := hSw; go_simp⟩) (by assumption) ?_
  simp only [List.getElem_toArray, List.getElem_cons_succ, List.getElem_cons_zero, Act.put, List.setIfInBounds_toArray, List.set_cons_zero, List.set_cons_succ]
  refine wpAnyH_take (i := 11) (v := .slice (some ⟨bb, bo, none⟩) 512 bc) rfl (by kernel_rfl) (by kernel_rfl) (by kernel_rfl) (fun _ _ _ h => h) (Or.inl ⟨by rfl, fun w hSw => by obtain ⟨hSc, _⟩ := hSw; go_simp⟩) (by assumption) ?_
  simp only [List.getElem_toArray, List.getElem_cons_succ, List.getElem_cons_zero, Act.put, List.setIfInBounds_toArray, List.set_cons_zero, List.set_cons_succ]
  refine wpAnyH_take (i := 12) (v := .pointer (some ⟨bb, bo, none⟩)) rfl (by kernel_rfl) (by kernel_rfl) (by kernel_rfl) (fun _ _ _ h => h) (Or.inl ⟨by rfl, fun w hSw => by obtain ⟨hSc, _⟩ := hSw; go_simp⟩) (by assumption) ?_
  simp only [List.getElem_toArray, List.getElem_cons_succ, List.getElem_cons_zero, Act.put, List.setIfInBounds_toArray, List.set_cons_zero, List.set_cons_succ]
  refine wpAnyH_take (i := 13) (v := .agg cs.toArray) rfl (by kernel_rfl) (by kernel_rfl) (by kernel_rfl) (fun _ _ _ h => h) (yieldsIf_load_mid (by rfl) _ _ rfl _ _ rfl _ _ (fun w hSw => hSw.2) hund rfl hinf) (by assumption) ?_
  simp only [List.getElem_toArray, List.getElem_cons_succ, List.getElem_cons_zero, Act.put, List.setIfInBounds_toArray, List.set_cons_zero, List.set_cons_succ]
  refine wpAnyH_ready (rs := [10, 14]) (by kernel_rfl) (by simp) (AllReadyH.cons rfl (fun K hK => ?_) (AllReadyH.cons rfl (fun K hK => ?_) AllReadyH.nil))
  · refine step_look rfl (.tmp 30) (.tmp 31) 87 rfl rfl rfl (unhide HLK _ (grown_drew (grown_refl _ _))) ?_
    refine hK.out _ _ hHeld (fun hHeld1 => ?_)
    clear hK K
    simp only [List.getElem_toArray, List.getElem_cons_succ, List.getElem_cons_zero, Act.put, List.setIfInBounds_toArray, List.set_cons_zero, List.set_cons_succ]
    refine wpAnyH_ready (rs := [14]) (by kernel_rfl) (by simp) (AllReadyH.cons rfl (fun K hK => ?_) AllReadyH.nil)
    refine step_build rfl (.tmp 35) rfl rfl HSL2.out ?_
    refine hK.out _ _ (unhide HS2 _ (grown_lit (grown_drew (grown_refl _ _)) _)) (fun hHeld2 => ?_)
    clear hK K
    simp only [List.getElem_toArray, List.getElem_cons_succ, List.getElem_cons_zero, Act.put, List.setIfInBounds_toArray, List.set_cons_zero, List.set_cons_succ]
    refine wpAnyH_ready (rs := [15]) (by kernel_rfl) (by simp) (AllReadyH.cons rfl (fun K2 hK2 => ?_) AllReadyH.nil)
    refine step_append_lies _ (by rfl) _ _ _ (by rfl) 0 99 i0 _ 512 512 Tryd.underlying86 hi0 hz0 hz1 hz2 hzs (by omega) _ m _ (by rfl) (World.ownsRow.alloc (w := w2.drew) hown2 _) ⟨w2.heap.size, 0, none⟩ 1 1 cs (by rfl) HSL.out (by intro j u hu; rw [Addr.add_lit, Nat.zero_add]; exact (Arr.new w2.drew cs 99).cell_of hu) hone (by omega) (by have := HW.out; unfold maxLen; omega) (by have := HW.out; omega) (Nat.zero_le _) (w2.heap.size + 1) (by simp) ?_
    intro g6 c6 w6 hr6 hg6 hat6 hlt6
    have hG6 : w2.grownBy w6 (Value.slice va m vc).ownBlock := (grown_lit (grown_drew (grown_refl w2 _)) _).trans hg6
    obtain ⟨w7, hup7, hg7, hM7⟩ := unhide HUP w6 g6 c6 hG6
    refine hK2.out _ _ (unhide HS2 _ hG6) (fun hHeld3 => ?_)
    clear hK2 K2
    simp only [List.getElem_toArray, List.getElem_cons_succ, List.getElem_cons_zero, Act.put, List.setIfInBounds_toArray, List.set_cons_zero, List.set_cons_succ]
    refine wpAnyH_ready (rs := [16]) (by kernel_rfl) (by simp) (AllReadyH.cons rfl (fun K3 hK3 => ?_) AllReadyH.nil)
    refine step_mapRun rfl (.tmp 25) (.tmp 26) (.tmp 37) 87 rfl rfl rfl rfl hup7 ?_
    refine hK3.out _ _ (unhide HS3 _ _ hG6 hg7) (fun hHeld4 => ?_)
    clear hK3 K3
    simp only [List.getElem_toArray, List.getElem_cons_succ, List.getElem_cons_zero, Act.put]
    refine wpAnyH_done (by kernel_rfl) ?_ _
    go_wp2
    go_ret
    exact ⟨rfl, unhide HFIN w6 w7 g6 c6 hr6 hG6 hat6 hg7 hM7⟩
  · refine step_build rfl (.tmp 35) rfl rfl HSL2.out ?_
    refine hK.out _ _ (unhide HS2 _ (grown_lit (grown_drew (grown_refl _ _)) _)) (fun hHeld2 => ?_)
    clear hK K
    simp only [List.getElem_toArray, List.getElem_cons_succ, List.getElem_cons_zero, Act.put, List.setIfInBounds_toArray, List.set_cons_zero, List.set_cons_succ]
    refine wpAnyH_ready (rs := [10]) (by kernel_rfl) (by simp) (AllReadyH.cons rfl (fun K hK => ?_) AllReadyH.nil)
    refine step_look rfl (.tmp 30) (.tmp 31) 87 rfl rfl rfl (unhide HLK _ (grown_lit (grown_drew (grown_refl _ _)) _)) ?_
    refine hK.out _ _ hHeld2 (fun hHeld1 => ?_)
    clear hK K
    simp only [List.getElem_toArray, List.getElem_cons_succ, List.getElem_cons_zero, Act.put, List.setIfInBounds_toArray, List.set_cons_zero, List.set_cons_succ]
    refine wpAnyH_ready (rs := [15]) (by kernel_rfl) (by simp) (AllReadyH.cons rfl (fun K2 hK2 => ?_) AllReadyH.nil)
    refine step_append_lies _ (by rfl) _ _ _ (by rfl) 0 99 i0 _ 512 512 Tryd.underlying86 hi0 hz0 hz1 hz2 hzs (by omega) _ m _ (by rfl) (World.ownsRow.alloc (w := w2.drew) hown2 _) ⟨w2.heap.size, 0, none⟩ 1 1 cs (by rfl) HSL.out (by intro j u hu; rw [Addr.add_lit, Nat.zero_add]; exact (Arr.new w2.drew cs 99).cell_of hu) hone (by omega) (by have := HW.out; unfold maxLen; omega) (by have := HW.out; omega) (Nat.zero_le _) (w2.heap.size + 1) (by simp) ?_
    intro g6 c6 w6 hr6 hg6 hat6 hlt6
    have hG6 : w2.grownBy w6 (Value.slice va m vc).ownBlock := (grown_lit (grown_drew (grown_refl w2 _)) _).trans hg6
    obtain ⟨w7, hup7, hg7, hM7⟩ := unhide HUP w6 g6 c6 hG6
    refine hK2.out _ _ (unhide HS2 _ hG6) (fun hHeld3 => ?_)
    clear hK2 K2
    simp only [List.getElem_toArray, List.getElem_cons_succ, List.getElem_cons_zero, Act.put, List.setIfInBounds_toArray, List.set_cons_zero, List.set_cons_succ]
    refine wpAnyH_ready (rs := [16]) (by kernel_rfl) (by simp) (AllReadyH.cons rfl (fun K3 hK3 => ?_) AllReadyH.nil)
    refine step_mapRun rfl (.tmp 25) (.tmp 26) (.tmp 37) 87 rfl rfl rfl rfl hup7 ?_
    refine hK3.out _ _ (unhide HS3 _ _ hG6 hg7) (fun hHeld4 => ?_)
    clear hK3 K3
    simp only [List.getElem_toArray, List.getElem_cons_succ, List.getElem_cons_zero, Act.put]
    refine wpAnyH_done (by kernel_rfl) ?_ _
    go_wp2
    go_ret
    exact ⟨rfl, unhide HFIN w6 w7 g6 c6 hr6 hG6 hat6 hg7 hM7⟩
set_option maxRecDepth 100000 in
set_option maxHeartbeats 1000000 in
theorem write_out {w : World} {p gl n cap : Nat} {x : Int} {v : Value} (hc : w.cell? ⟨p, 0, none⟩ = some (.slice (some ⟨gl, 0, none⟩) n cap)) (hx : x < 0 ∨ (n : Int) ≤ x) :
    Calls Tryd.prog 67 #[.pointer (some ⟨p, 0, none⟩), .int .i64 x, v] w fun e w' => e = .returned (.int .i64 31) ∧ w' = w := by
  have hO := hide (outside_out (x := x) hc hx)
  clear hx
  go_enter Tryd.func67, Tryd.ntmps67
  go_wp2_with (go_at_call 45; refine (unhide hO).mono ?_; rintro e w1 ⟨rfl, rfl⟩)
  go_ret
  exact ⟨rfl, rfl⟩
set_option maxRecDepth 100000 in
set_option maxHeartbeats 1000000 in
theorem write_size {w : World} {p gl n cap i bn bc : Nat} {ba : Option Addr} (hc : w.cell? ⟨p, 0, none⟩ = some (.slice (some ⟨gl, 0, none⟩) n cap)) (hi : i < n) (hb : bn ≠ 512) :
    Calls Tryd.prog 67 #[.pointer (some ⟨p, 0, none⟩), .int .i64 (i : Int), .slice ba bn bc] w fun e w' => e = .returned (.int .i64 32) ∧ w' = w := by
  have hO := hide (outside_in (i := i) hc hi)
  have hb2 : ¬ (bn : Int) = 512 := by omega
  clear hi
  go_enter Tryd.func67, Tryd.ntmps67
  go_wp2_with (go_at_call 45; refine (unhide hO).mono ?_; rintro e w1 ⟨rfl, rfl⟩)
  go_ret
  exact ⟨rfl, rfl⟩
end Go.Proofs.YthhjlopgpmaokabDoor
