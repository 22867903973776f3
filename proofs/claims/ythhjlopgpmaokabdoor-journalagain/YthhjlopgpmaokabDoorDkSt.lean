/- settle: what lasts of each sector that has writes, by its fate; then no writes any more. -/
import Derived.Test.YthhjlopgpmaokabDoorKG
import Derived.Test.YthhjlopgpmaokabDoorDkU
namespace Go.Proofs.YthhjlopgpmaokabDoor
open Go.RowKit Go.Maps

/-- What fate tells, wherever nothing but what lasts has changed. -/
def Fated (w : World) (gl : Nat) (F : Nat) (lb : Array Value) (n : Nat) (fate : Nat → Int) : Prop :=
  (∀ args W, (callFunc F args).run Tryd.prog W = .ok (.enter F args) W) ∧ ∀ W, Up (fun b => b = gl) w W → ∀ k : Nat, k < n → Calls Tryd.prog F (#[.int .i64 (k : Int)] ++ lb) W fun e w' => e = .returned (.int .i64 (fate k)) ∧ Below W.heap.size W w'
def AD.part (D : AD) (fate : Nat → Int) (k : Nat) : AD := { D with la := D.laAfter fate k }
theorem AD.part_ok {D : AD} (h : D.Ok) (fate : Nat → Int) (k : Nat) : (D.part fate k).Ok := by
  have hl : (D.part fate k).la.length = D.la.length := AD.laAfter_len D fate k
  exact ⟨by rw [hl]; exact h.lo, by rw [hl]; exact h.hi, h.after fate k, h.wrs, fun i hi => h.out i (by rw [hl] at hi; exact hi)⟩
theorem AD.part_len (D : AD) (fate : Nat → Int) (k : Nat) : (D.part fate k).la.length = D.la.length := AD.laAfter_len D fate k
theorem AD.part_zero (D : AD) (fate : Nat → Int) : D.part fate 0 = D := rfl
theorem AD.part_yes {D : AD} {fate : Nat → Int} {k q : Nat} (hq : D.keys.getD k 0 = q) (h : 1 ≤ min (fate k) (D.wr q).length) : D.part fate (k + 1) = { D.part fate k with la := (D.part fate k).la.set q (pickW (D.wr q) (fate k)) } := by
  unfold AD.part
  rw [AD.laAfter, hq, if_pos h]
theorem AD.part_no {D : AD} {fate : Nat → Int} {k q : Nat} (hq : D.keys.getD k 0 = q) (h : ¬ 1 ≤ min (fate k) (D.wr q).length) : D.part fate (k + 1) = D.part fate k := by
  unfold AD.part
  rw [AD.laAfter, hq, if_neg h]
theorem Dk.emptied {w : World} {p gl gm : Nat} {V : Nat → Value} {D : AD} (h : Dk w p gl gm V D) :
    Dk ((w.alloc (.map #[] 0)).setCell ⟨p, 1, none⟩ (.map (some w.heap.size))) p gl w.heap.size (fun _ => .slice none 0 0) { D with wr := fun _ => [] } := by
  have h1 := h.below ((Below.refl _ w).alloc (Nat.le_refl _) (.map #[] 0))
  have hp := h.blk.lt
  have hg := grown_cell (w.alloc (.map #[] 0)) p 1 (.map (some w.heap.size))
  have hok := h.ok
  refine ⟨⟨hok.lo, hok.hi, hok.las, fun i s hs => by simp at hs, fun _ _ => rfl⟩, h1.blk.set 1 _, h1.las.kept hg (Or.inr (by simp only [Value.ownBlock, ne_eq, Option.some.injEq]; exact fun e => h.p_gl e.symm)), ⟨.map [], ?_, ?_, ?_⟩, fun i => World.ownsRow_nil _ _ _ _, fun i j g h => (by cases h), fun i => (by simp [Value.ownBlock])⟩
  · refine (map_none _ _ ?_).mono (Nat.zero_le _)
    have e : (w.alloc (.map #[] 0)).heap[w.heap.size]? = some (.map #[] 0) := heap_alloc_last w _
    rw [hg.block w.heap.size (by simp) (by simp; omega)]
    exact e
  · intro i
    exact ⟨rfl, rfl⟩
  · intro x hx
    simp [Maps.has] at hx
theorem min_two {w : World} (ts : Array TypeId) (t : TypeId) (k k' : IntKind) (x y : Int) : (Builtin.min_ ts t #[.int k x, .int k' y]).run Tryd.prog w = .ok (.int k (min x y)) w := by
  have : (Builtin.min_ ts t #[.int k x, .int k' y]).run Tryd.prog w = .ok (.int k (if y < x then y else x)) w := by simp [Builtin.min_, Builtin.min2]
  rw [this]
  congr 2
  by_cases h : y < x
  · rw [if_pos h]; omega
  · rw [if_neg h]; omega
set_option maxRecDepth 100000 in
set_option maxHeartbeats 2000000 in
theorem settle_calls {w : World} {p gl gm F : Nat} {lb : Array Value} {V : Nat → Value} {D : AD} {fate : Nat → Int} (h : Dk w p gl gm V D) (hwl : ∀ i, (D.wr i).length ≤ 68719476736) (hf : Fated w gl F lb D.keys.length fate) :
    Calls Tryd.prog 65 #[.pointer (some ⟨p, 0, none⟩), .func (.func F) #[] lb] w fun e w' => e = .returned (.tuple #[]) ∧
      ∃ gm', w.heap.size ≤ gm' ∧ Dk w' p gl gm' (fun _ => .slice none 0 0) (D.settle fate) ∧ Up (fun b => b = p ∨ b = gl) w w' := by
  obtain ⟨c0, c1, c2, c3, c4⟩ := h.cells
  have HK := hide (keys_calls (some gm) w)
  have HS := hide (sorted_calls h)
  have HD := hide h
  have eF := hf.1
  have HF := hide hf.2
  have HWL := hide hwl
  have HLE := hide (keys_le h.ok)
  have HHI := hide h.ok.hi
  clear h hf hwl
  go_enter Tryd.func65, Tryd.ntmps65
  go_wp2_with (go_at_call 70; refine (unhide HK).mono ?_; rintro e w1 ⟨rfl, rfl⟩)
  refine (unhide HS).mono ?_
  rintro e w1 ⟨v, rfl, hrow, hb1⟩
  have HV : Hid (∃ a c, v = .slice a D.keys.length c ∧ (0 < D.keys.length → ∃ g, a = some ⟨g, 0, none⟩ ∧ w.heap.size ≤ g ∧ g < w1.heap.size ∧ D.keys.length ≤ c ∧ c ≤ 9223372036854775807 ∧ ∀ k, k < D.keys.length → w1.cell? ⟨g, k, none⟩ = some (.int .i64 ((D.keys.getD k 0 : Nat) : Int)))) := by
    rcases hrow.2 with ⟨hv, h0⟩ | ⟨g, cap, cur, hv, hbase, hblk, hle, hm, hsz, ht⟩
    · exact ⟨none, 0, by rw [hv, h0], fun hp => by omega⟩
    · refine ⟨_, cap, hv, fun _ => ⟨g, rfl, hbase, (Array.getElem?_eq_some_iff.1 hblk).1, hle, by simpa [maxLen] using hm, fun k hk => ?_⟩⟩
      have := hrow.cells (g := g) (by rw [hv]; rfl) k (.int .i64 ((D.keys.getD k 0 : Nat) : Int)) (by rw [List.getElem?_map, List.getElem?_eq_getElem hk, List.getD_eq_getElem?_getD, List.getElem?_eq_getElem hk]; rfl)
      rw [Addr.add_lit, Nat.zero_add] at this
      exact this
  obtain ⟨va, vc, hV, hVp⟩ := HV.out
  have hD1 := HD.out.below hb1
  subst hV
  clear HV hrow c0 c1 c2 c3 c4 HK HS
  have HB1 := hide hb1
  clear hb1
  have HKEY : Hid (∀ k, k < D.keys.length → D.keys.getD k 0 < D.la.length ∧ 0 < (D.wr (D.keys.getD k 0)).length) := fun k hk => by
    have hm : D.keys.getD k 0 ∈ D.keys := by
      rw [List.getD_eq_getElem?_getD, List.getElem?_eq_getElem hk]
      exact List.getElem_mem _
    exact ⟨AD.keys_lt hm, by simpa using (List.mem_filter.1 hm).2⟩
  have HDE : Hid (∀ W, Dk W p gl gm V (D.part fate D.keys.length) → Dk ((W.alloc (.map #[] 0)).setCell ⟨p, 1, none⟩ (.map (some W.heap.size))) p gl W.heap.size (fun _ => .slice none 0 0) (D.settle fate)) := fun W hW => hW.emptied
  generalize hkn : D.keys.length = kn at *
  generalize hn : D.la.length = n at *
  have HN := hide hn
  have HKN := hide hkn
  clear hn hkn
  go_wp2
  go_loopw [15] (fun kv wr => ∃ k : Nat, k ≤ kn ∧ kv = .int .i64 (k : Int) ∧ Dk wr p gl gm V (D.part fate k) ∧ Up (fun b => b = gl) w wr ∧ Up (fun b => b = gl) w1 wr) (fun kv _ => kn - (intOf kv).toNat)
  case atStart => exact ⟨0, by omega, rfl, hD1, Up.of_below HB1.out, Up.refl _ _⟩
  case round =>
    obtain ⟨k, hk, rfl, hD, hU, hU1⟩ := hrel
    clear hD1
    by_cases hlt : k < kn
    · obtain ⟨g, rfl, hwg, hgl1, hmc, hcm, hcell⟩ := hVp (by omega)
      obtain ⟨hq1, hq2⟩ := unhide HKEY k hlt
      have hck := hcell k hlt
      have hglw : gl < w.heap.size := HD.out.lt (Or.inr (Or.inl rfl))
      have hck2 : wr.cell? ⟨g, k, none⟩ = some (.int .i64 ((D.keys.getD k 0 : Nat) : Int)) := hU1.cell hck (by show ¬ g = gl; omega)
      have HCALL := hide (fun W (hW : Below wr.heap.size wr W) => unhide HF W (hU.then_below hW) k hlt)
      generalize hq : D.keys.getD k 0 = q at *
      have hq5 : q ≤ 9223372036854775807 := by have := HHI.out; omega
      have hlook := hD.look (i := q) hq5
      have hrowq : wr.ownsRow 0 99 512 (V q) (D.wr q).length (secV (D.wr q)) := hD.row q
      have hcells := hD.cells
      obtain ⟨d0, d1, _⟩ := hcells
      rw [AD.part_len, HN.out] at d0
      obtain ⟨gv, vcc, hVq, hVm, hVc⟩ : ∃ gv c, V q = .slice (some ⟨gv, 0, none⟩) (D.wr q).length c ∧ (D.wr q).length ≤ c ∧ c ≤ 9223372036854775807 := by
        rcases hrowq.2 with ⟨hv, h0⟩ | ⟨g, cap, cur, hv, _, _, hle, hm, _⟩
        · omega
        · exact ⟨g, cap, hv, hle, by simpa [maxLen] using hm⟩
      rw [hVq] at hlook hrowq
      have HWQ := hide (unhide HWL q)
      generalize hm : (D.wr q).length = m at *
      have HM := hide hm
      clear hm
      have HD0 := hide hD
      clear hD
      have HMIN : Hid (∀ W, (Builtin.min_ #[3, 3] 3 #[.int .i64 (fate k), .int .i64 (m : Int)]).run Tryd.prog W = .ok (.int .i64 (min (fate k) (m : Int))) W) := fun W => min_two _ _ _ _ _ _
      generalize hJ : min (fate k) (m : Int) = J at *
      have HJ := hide hJ
      clear hJ
      have hpl := HD.out.p_gl
      have hpw : p < wr.heap.size := HD0.out.blk.lt
      have hgw : gl < wr.heap.size := HD0.out.lt (Or.inr (Or.inl rfl))
      have hUp : Hid (∀ W, Below wr.heap.size wr W → Up (fun b => b = gl) w W ∧ Up (fun b => b = gl) w1 W) := fun W hW => ⟨hU.then_below hW, hU1.then_below hW⟩
      have HNO : Hid (∀ W, Below wr.heap.size wr W → ¬ 1 ≤ J → Dk W p gl gm V (D.part fate (k + 1))) := fun W hW hj => by
        rw [AD.part_no hq (by rw [HM.out, HJ.out]; exact hj)]
        exact HD0.out.below hW
      have HYES : Hid (∀ W, Below wr.heap.size wr W → 1 ≤ J → Dk (W.setCells gl (q * 512) (u8V (pickW (D.wr q) (fate k)))) p gl gm V (D.part fate (k + 1))) := fun W hW hj => by
        have hj2 : 1 ≤ min (fate k) ((D.wr q).length : Int) := by rw [HM.out, HJ.out]; exact hj
        rw [AD.part_yes hq hj2]
        exact (HD0.out.below hW).put (by rw [AD.part_len, HN.out]; exact hq1) (HD.out.ok.wrs q _ (pickW_mem hj2))
      have HUY : Hid (∀ W cs, Below wr.heap.size wr W → Up (fun b => b = gl) w (W.setCells gl (q * 512) cs) ∧ Up (fun b => b = gl) w1 (W.setCells gl (q * 512) cs)) := fun W cs hW => by
        have hs : Up (fun b => b = gl) W (W.setCells gl (q * 512) cs) := Up.of_grown (grown_setCells W gl (q * 512) cs) (fun g hg => by injection hg with hg; exact hg.symm)
        exact ⟨((unhide hUp W hW).1).trans hs (fun _ h => Or.inl h), ((unhide hUp W hW).2).trans hs (fun _ h => Or.inl h)⟩
      clear hU hU1 hcell
      go_wp2_with (first
        | (at_lookup; refine wpList_lookRun rfl _ _ 87 rfl rfl rfl hlook ?_))
      refine (unhide HCALL wr (Below.refl _ _)).mono ?_
      rintro e w2 ⟨rfl, hbW⟩
      have hmin := HMIN.out w2
      have hlw2 : wr.heap.size ≤ w2.heap.size := hbW.size
      clear HCALL HMIN hlook hck hck2 d0 d1
      by_cases hj : 1 ≤ J
      · obtain ⟨jn, hjn⟩ : ∃ jn : Nat, J = (jn : Int) + 1 := ⟨(J - 1).toNat, by omega⟩
        have hjm : jn < m := by have := HJ.out; omega
        have hjw : IntKind.i64.wrap (J - 1) = (jn : Int) := by
          have hh : J - 1 = (jn : Int) := by omega
          rw [hh]
          have := HWQ.out
          exact IntWalk.i64_in _ (by omega)
        have hpick : u8V (pickW (D.wr q) (fate k)) = u8V ((D.wr q).getD jn zsec) := by
          unfold pickW
          rw [HM.out, HJ.out, show J.toNat - 1 = jn by omega]
        have hsj : IsSec ((D.wr q).getD jn zsec) := by
          have hx : jn < (D.wr q).length := by rw [HM.out]; exact hjm
          rw [List.getD_eq_getElem?_getD, List.getElem?_eq_getElem hx]; exact HD.out.ok.wrs q _ (List.getElem_mem hx)
        have hrng : wr.rangeAt gv (jn * 512) (u8V ((D.wr q).getD jn zsec)) := owns_range hrowq (HD.out.ok.wrs q) (by rw [HM.out]; exact hjm)
        have hgvl : gv < wr.heap.size := (hrowq.lt gv rfl).2
        have hgvn : gv ≠ gl := fun e => HD.out.low q (by rw [hVq, e]; rfl)
        have hcl : (u8V ((D.wr q).getD jn zsec)).length = 512 := by rw [u8V_len]; exact hsj.1
        have hone := u8V_one ((D.wr q).getD jn zsec)
        have hund := Tryd.underlying99
        have hinf : (Tryd.prog.info? 99).map (·.size) = some (u8V ((D.wr q).getD jn zsec)).length := by rw [hcl]; kernel_rfl
        have HSET : Hid (∀ W, Below wr.heap.size wr W → W.cell? ⟨p, 0, none⟩ = some (.slice (some ⟨gl, 0, none⟩) n n) ∧ W.rangeAt gv (jn * 512) (u8V ((D.wr q).getD jn zsec)) ∧ W.there gl (q * 512) 512) := fun W hW => by
          have hDW := HD0.out.below hW
          refine ⟨?_, range_of_block hrng (hW.block gv hgvl), hDW.there (by rw [AD.part_len, HN.out]; exact hq1)⟩
          have := hDW.cells.1
          rw [AD.part_len, HN.out] at this
          exact this
        have HSET2 : Hid (∀ W, Below wr.heap.size wr W → (W.setCells gl (q * 512) (u8V ((D.wr q).getD jn zsec))).cell? ⟨p, 0, none⟩ = some (.slice (some ⟨gl, 0, none⟩) n n) ∧ (W.setCells gl (q * 512) (u8V ((D.wr q).getD jn zsec))).rangeAt gv (jn * 512) (u8V ((D.wr q).getD jn zsec)) ∧ (W.setCells gl (q * 512) (u8V ((D.wr q).getD jn zsec))).there gl (q * 512) 512) := fun W hW => by
          obtain ⟨s1, s2, s3⟩ := unhide HSET W hW
          have hgr := grown_setCells W gl (q * 512) (u8V ((D.wr q).getD jn zsec))
          exact ⟨hgr.cell s1 (by simpa using hpl), range_of_block s2 (hgr.block gv (Nat.lt_of_lt_of_le hgvl hW.size) (by simpa using hgvn)), World.there_setCells s3 _ _ _⟩
        have HY2 := hide (unhide HYES w2.drew hbW.drew (by omega))
        rw [hpick] at HY2
        have HY3 := hide (unhide HUY w2.drew (u8V ((D.wr q).getD jn zsec)) hbW.drew)
        clear HYES HNO HUY hrng hsj hpick hrowq
        generalize u8V ((D.wr q).getD jn zsec) = cs at *
        have hdj : decide (1 ≤ J) = true := by simpa using hj
        have HJN := hide hjn
        clear hjn
        go_wp2
        refine wp_region_held_drew (S := fun W => W.cell? ⟨p, 0, none⟩ = some (.slice (some ⟨gl, 0, none⟩) n n) ∧ W.rangeAt gv (jn * 512) cs ∧ W.there gl (q * 512) 512) (by kernel_rfl) (unhide HSET _ hbW.drew) (fun hHeld => ?_)
        refine wpAnyH_take (i := 0) (v := .pointer (some ⟨p, 0, none⟩)) rfl (by kernel_rfl) (by kernel_rfl) (by kernel_rfl) (fun _ _ _ h => h) (Or.inl ⟨by rfl, fun w hSw => by obtain ⟨hSc, hSr, hSt⟩ := hSw; go_simp⟩) (by assumption) ?_
        simp only [List.getElem_toArray, List.getElem_cons_zero, Act.put, List.setIfInBounds_toArray, List.set_cons_zero, List.set_cons_succ]
        refine wpAnyH_take (i := 1) (v := .pointer (some ⟨p, 0, none⟩)) rfl (by kernel_rfl) (by kernel_rfl) (by kernel_rfl) (fun _ _ _ h => h) (Or.inl ⟨by rfl, fun w hSw => by obtain ⟨hSc, hSr, hSt⟩ := hSw; go_simp⟩) (by assumption) ?_
        simp only [List.getElem_toArray, List.getElem_cons_succ, List.getElem_cons_zero, Act.put, List.setIfInBounds_toArray, List.set_cons_zero, List.set_cons_succ]
        refine wpAnyH_take (i := 2) (v := .pointer (some ⟨p, 0, none⟩)) rfl (by kernel_rfl) (by kernel_rfl) (by kernel_rfl) (fun _ _ _ h => h) (Or.inl ⟨by rfl, fun w hSw => by obtain ⟨hSc, hSr, hSt⟩ := hSw; go_simp⟩) (by assumption) ?_
        simp only [List.getElem_toArray, List.getElem_cons_succ, List.getElem_cons_zero, Act.put, List.setIfInBounds_toArray, List.set_cons_zero, List.set_cons_succ]
        refine wpAnyH_take (i := 3) (v := .slice (some ⟨gl, 0, none⟩) n n) rfl (by kernel_rfl) (by kernel_rfl) (by kernel_rfl) (fun _ _ _ h => h) (Or.inl ⟨by rfl, fun w hSw => by obtain ⟨hSc, hSr, hSt⟩ := hSw; go_simp⟩) (by assumption) ?_
        simp only [List.getElem_toArray, List.getElem_cons_succ, List.getElem_cons_zero, Act.put, List.setIfInBounds_toArray, List.set_cons_zero, List.set_cons_succ]
        refine wpAnyH_take (i := 4) (v := .int .i64 (q : Int)) rfl (by kernel_rfl) (by kernel_rfl) (by kernel_rfl) (fun _ _ _ h => h) (Or.inl ⟨by rfl, fun w hSw => by obtain ⟨hSc, hSr, hSt⟩ := hSw; go_simp⟩) (by assumption) ?_
        simp only [List.getElem_toArray, List.getElem_cons_succ, List.getElem_cons_zero, Act.put, List.setIfInBounds_toArray, List.set_cons_zero, List.set_cons_succ]
        refine wpAnyH_take (i := 5) (v := .slice (some ⟨gv, 0, none⟩) m vcc) rfl (by kernel_rfl) (by kernel_rfl) (by kernel_rfl) (fun _ _ _ h => h) (Or.inl ⟨by rfl, fun w hSw => by obtain ⟨hSc, hSr, hSt⟩ := hSw; go_simp⟩) (by assumption) ?_
        simp only [List.getElem_toArray, List.getElem_cons_succ, List.getElem_cons_zero, Act.put, List.setIfInBounds_toArray, List.set_cons_zero, List.set_cons_succ]
        refine wpAnyH_take (i := 6) (v := .int .i64 J) rfl (by kernel_rfl) (by kernel_rfl) (by kernel_rfl) (fun _ _ _ h => h) (Or.inl ⟨by rfl, fun w hSw => by obtain ⟨hSc, hSr, hSt⟩ := hSw; go_simp⟩) (by assumption) ?_
        simp only [List.getElem_toArray, List.getElem_cons_succ, List.getElem_cons_zero, Act.put, List.setIfInBounds_toArray, List.set_cons_zero, List.set_cons_succ]
        refine wpAnyH_take (i := 7) (v := .int .i64 (jn : Int)) rfl (by kernel_rfl) (by kernel_rfl) (by kernel_rfl) (fun _ _ _ h => h) (Or.inl ⟨by rfl, fun w hSw => by obtain ⟨hSc, hSr, hSt⟩ := hSw; go_simp⟩) (by assumption) ?_
        simp only [List.getElem_toArray, List.getElem_cons_succ, List.getElem_cons_zero, Act.put, List.setIfInBounds_toArray, List.set_cons_zero, List.set_cons_succ]
        refine wpAnyH_take (i := 8) (v := .pointer (some ⟨gv, jn * 512, none⟩)) rfl (by kernel_rfl) (by kernel_rfl) (by kernel_rfl) (fun _ _ _ h => h) (Or.inl ⟨by rfl, fun w hSw => by obtain ⟨hSc, hSr, hSt⟩ := hSw; go_simp⟩) (by assumption) ?_
        simp only [List.getElem_toArray, List.getElem_cons_succ, List.getElem_cons_zero, Act.put, List.setIfInBounds_toArray, List.set_cons_zero, List.set_cons_succ]
        refine wpAnyH_take (i := 9) (v := .agg (cs).toArray) rfl (by kernel_rfl) (by kernel_rfl) (by kernel_rfl) (fun _ _ _ h => h) (yieldsIf_load_mid (by rfl) _ _ rfl _ _ rfl _ _ (fun w hSw => hSw.2.1) hund rfl hinf) (by assumption) ?_
        simp only [List.getElem_toArray, List.getElem_cons_succ, List.getElem_cons_zero, Act.put, List.setIfInBounds_toArray, List.set_cons_zero, List.set_cons_succ]
        refine wpAnyH_take (i := 10) (v := .pointer (some ⟨gl, q * 512, none⟩)) rfl (by kernel_rfl) (by kernel_rfl) (by kernel_rfl) (fun _ _ _ h => h) (Or.inl ⟨by rfl, fun w hSw => by obtain ⟨hSc, hSr, hSt⟩ := hSw; go_simp⟩) (by assumption) ?_
        simp only [List.getElem_toArray, List.getElem_cons_succ, List.getElem_cons_zero, Act.put, List.setIfInBounds_toArray, List.set_cons_zero, List.set_cons_succ]
        refine wpAnyH_ready (rs := [11]) (by kernel_rfl) (by simp) (AllReadyH.cons rfl (fun K hK => ?_) AllReadyH.nil)
        refine step_storeMid rfl (.tmp 44) (.tmp 43) rfl rfl rfl hHeld.2.2 hcl hone ?_
        refine hK.out _ _ (unhide HSET2 _ hbW.drew) (fun hHeld3 => ?_)
        clear hK K
        simp only [List.getElem_toArray, List.getElem_cons_succ, List.getElem_cons_zero, Act.put]
        refine wpAnyH_done (by kernel_rfl) ?_ _
        go_wp2
        exact ⟨⟨k + 1, by omega, by go_num, HY2.out, HY3.out.1, HY3.out.2⟩, by simp [intOf]; omega⟩
      · have hdj : decide (1 ≤ J) = false := by simpa using hj
        have HN2 := hide (unhide HNO w2 hbW (by omega))
        have HN3 := hide (unhide hUp w2 hbW)
        clear HYES HNO HUY
        go_wp2
        exact ⟨⟨k + 1, by omega, by go_num, HN2.out, HN3.out.1, HN3.out.2⟩, by simp [intOf]; omega⟩
    · have hkm : k = kn := by omega
      have HK2 := hide hkm
      have hpw : p < wr.heap.size := hD.blk.lt
      have hmm := @run_makeMap Tryd.prog
      have hfz := (hD.below ((Below.refl _ wr).alloc (Nat.le_refl _) (.map #[] 0))).frozen 1
      have hcc := (hD.below ((Below.refl _ wr).alloc (Nat.le_refl _) (.map #[] 0))).cells.2.1
      have hws := hU.size
      have HE := hide (unhide HDE wr (by rw [← hkm]; exact hD))
      have HUE : Hid (Up (fun b => b = p ∨ b = gl) w ((wr.alloc (.map #[] 0)).setCell ⟨p, 1, none⟩ (.map (some wr.heap.size)))) := by
        have h1 : Up (fun b => b = p ∨ b = gl) w (wr.alloc (.map #[] 0)) := (hU.mono (fun _ h => Or.inr h)).then_below ((Below.refl _ wr).alloc (Nat.le_refl _) _)
        exact h1.trans (F' := fun b => b = p ∨ b = gl) (Up.of_grown (grown_cell _ p 1 _) (fun g hg => by injection hg with hg; exact Or.inl hg.symm)) (fun _ h => Or.inl h)
      have hcm : (wr.alloc (.map #[] 0)).setCell ⟨p, 1, none⟩ (.map (some wr.heap.size)) = (wr.setCell ⟨p, 1, none⟩ (.map (some wr.heap.size))).alloc (.map #[] 0) := by go_simp
      rw [hcm] at HE HUE
      clear hkm HDE hU hU1 hD hVp hcm
      go_wp2
      go_end0
      exact ⟨rfl, _, by omega, HE.out, HUE.out⟩
end Go.Proofs.YthhjlopgpmaokabDoor
