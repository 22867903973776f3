/- ChainReads: a whole reading of a base, walked. -/
import Derived.Test.YtdalbalphagmfaaGreatDoorTG
namespace Go.Proofs.YtdalbalphagmfaaGreatDoor
open Go.RowKit Go.Maps

theorem reads_reads (D : AD) (a b : Nat) : (D.reads a).reads b = D.reads (a + b) := by
 show ({ D with rd := D.rd + (a : Int) + (b : Int) } : AD) = { D with rd := D.rd + ((a + b : Nat) : Int) }
 congr 1
 omega
theorem Own8.wroteB {w w' : World} {B g : Nat} {v : Value} {xs : List Int} (h : Own8 w B v xs) (hw : Wrote w w' g) (hg : g < B) : IsB w' v xs := h.isB.up0 hw.up (fun hp b hb e => by
 obtain ⟨g', c', hv, hB, _⟩ := h.head hp
 rw [hv] at hb
 have e1 : g' = b := Option.some.inj hb
 omega)
section
variable {w0 w W : World} {gx ga ca n p gl gm g gr B0 gy B pr up ug B2 gq heap : Nat} {us : List Value} {ims : List (List Int)} {V : Nat → Value} {D : AD} {hs : List Int} {fi le : Int} {S : RS}
theorem Lk.begin (hE : Ey W gy B p pr up ug B2 gq hs fi le heap n S (.slice none 0 0) (.slice none 0 0) (.slice none 0 0) (.slice none 0 0)) (hl : w0.heap.size ≤ gy ∧ w0.heap.size ≤ pr ∧ w0.heap.size ≤ up ∧ w0.heap.size ≤ ug ∧ w0.heap.size ≤ gq ∧ B ≤ W.heap.size ∧ B2 ≤ W.heap.size ∧ gy ≠ gq) (hD : Dk w0 p gl gm V D) (hb : Below w0.heap.size w0 W) (hP : Pj le heap n S) : Lk w0 W p gl gm V D gy B pr up ug B2 gq hs fi le heap n S (.slice none 0 0) (.slice none 0 0) (.slice none 0 0) (.slice none 0 0) 0 := by
 obtain ⟨at_, parts, hG, _⟩ := hE.gs.ex
 obtain ⟨l1, l2, l3, l4, l5, l6, l7, l8⟩ := hl
 have hup : Ty W up 128 := by obtain ⟨⟨c, m, q⟩, _⟩ := hE.rd.sp.cellsG; exact ⟨c, m, q⟩
 have hug : Ty W ug 126 := by obtain ⟨_, _, c, m, q⟩ := hE.rd.sp.cellsG; exact ⟨c, m, q⟩
 have hFr : ∀ b, Fr pr up ug (.slice none 0 0) (.slice none 0 0) b → b = pr ∨ b = up ∨ b = ug := by
  rintro b (h | h | h | h | h)
  · exact Or.inl h
  · exact Or.inr (Or.inl h)
  · exact Or.inr (Or.inr h)
  · cases h
  · cases h
 have hne : ∀ {b : Nat} {t : TypeId}, Ty W b t → t ≠ 177 → t ≠ 128 → t ≠ 126 → ¬ Fr pr up ug (.slice none 0 0) (.slice none 0 0) b := fun hb t1 t2 t3 e => by
  rcases hFr _ e with rfl | rfl | rfl
  · exact t1 (hb.one hE.rd.arr.ty)
  · exact t2 (hb.one hup)
  · exact t3 (hb.one hug)
 refine ⟨hE, by rw [reads_zero]; exact hD.below hb, Up.of_below hb, fun b h => ?_, ⟨l5, l1, l8⟩, (fun b h => by cases h), (fun b h => by cases h), ⟨hne hG.arr.ty (by decide) (by decide) (by decide), hne hE.arr.ty (by decide) (by decide) (by decide)⟩, ⟨l6, l7⟩, hP⟩
 rcases hFr b h with rfl | rfl | rfl <;> assumption
/-- One look, whatever stands. -/
theorem look_any {nv bv nq pq : Value} (hC : Bc w0 gx ga ca n us ims p gl gm V D g gr B0) (hF : ∀ x, Ft p gl gm V x → GB ≤ x) (hG : GB ≤ w0.heap.size) (h : Lk w0 w p gl gm V D gy B pr up ug B2 gq hs fi le heap n S nv bv nq pq S.ns.length) (h1 : 1 ≤ heap) (hn2 : n ≤ 65536) (hfi : fi ≠ 0) (hnow : ∀ i, i < n → D.now i = ims.getD i []) (hw0 : 0 ≤ D.wt) (hw1 : D.wt ≤ 1000000000) (hr0 : 0 ≤ D.rd) (hr1 : D.rd ≤ 1000000000) :
 Calls Tryz.prog 43 #[.pointer (some ⟨gx, 0, none⟩), .pointer (some ⟨gy, 0, none⟩)] w fun e w' => e = .returned (.bool true) ∧ Hid (∃ nv' bv' nq' pq', Lk w0 w' p gl gm V D gy B pr up ug B2 gq hs fi le heap n (stS (fun i => ims.getD i []) hs fi le heap n S) nv' bv' nq' pq' (stS (fun i => ims.getD i []) hs fi le heap n S).ns.length) := by
 have hj5 : S.ns.length ≤ 1000000 := by have := h.ey.nsl; omega
 cases ho : outB le S with
 | true =>
   have e : stS (fun i => ims.getD i []) hs fi le heap n S = S := by unfold stS; rw [if_pos ho]
   rw [e]
   refine (look_end hC (hF p (Or.inl rfl)) h ho hw0 hw1 hr0 hr1 hj5).mono ?_
   rintro e w' ⟨rfl, hb⟩
   exact ⟨rfl, hide ⟨_, _, _, _, h.below hb⟩⟩
 | false =>
   have e : stS (fun i => ims.getD i []) hs fi le heap n S = readS (ims.getD S.nx []) hs fi le heap n S := by unfold stS; rw [if_neg (by rw [ho]; decide)]
   rw [e]
   refine (look_more hC hF hG h ho h1 hn2 hfi hnow hw0 hw1 hr0 hr1 hj5).mono ?_
   rintro e w' ⟨rfl, nv', bv', nq', pq', hL⟩
   refine ⟨rfl, hide ⟨nv', bv', nq', pq', ?_⟩⟩
   rw [readS_ns, List.length_append, List.length_singleton]
   exact hL
end
section
variable {w : World} {gx ga ca n p gl gm g gr B0 : Nat} {us : List Value} {ims : List (List Int)} {V : Nat → Value} {D : AD} {hs : List Int} {fi le : Int}
set_option maxRecDepth 100000 in
set_option maxHeartbeats 16000000 in
/-- A reading that is refused. -/
theorem bread_no {heap f : Int} (hC : Bc w gx ga ca n us ims p gl gm V D g gr B0) (hp : GB ≤ p) (hh : hs.length = 32) (hf : RefE heap n fi le f) (hw0 : 0 ≤ D.wt) (hw1 : D.wt ≤ 1000000) (hr0 : 0 ≤ D.rd) (hr1 : D.rd ≤ 1000000) :
 Calls Tryz.prog 14 #[.pointer (some ⟨gx, 0, none⟩), .int .i64 heap, .agg (refV hs fi le).toArray] w fun e w' => e = .returned (.bool true) ∧ ∃ j, j ≤ 5000 ∧ Dk w' p gl gm V (D.reads j) ∧ Up (fun b => b = p) w w' := by
 obtain ⟨rd, hrd⟩ : ∃ rd, D.rd = rd := ⟨_, rfl⟩
 obtain ⟨wt, hwt⟩ : ∃ wt, D.wt = wt := ⟨_, rfl⟩
 obtain ⟨fl, hfl⟩ : ∃ fl, D.fl = fl := ⟨_, rfl⟩
 have hblk := hC.dk.blk
 rw [hrd, hwt, hfl] at hblk
 obtain ⟨S, hS⟩ : ∃ S, w.heap.size = S := ⟨_, rfl⟩
 obtain ⟨w1, hw1'⟩ : ∃ w1, w.alloc (.cells (refV hs fi le).toArray 38) = w1 := ⟨_, rfl⟩
 have hb1 : Below w.heap.size w w1 := by rw [← hw1']; exact (Below.refl _ _).alloc (Nat.le_refl _) _
 have hA1 : Arr w1 S 38 (refV hs fi le) := by rw [← hw1', ← hS]; exact Arr.new w _ _
 obtain ⟨RV, hRV⟩ : ∃ RV, refV hs fi le = RV := ⟨_, rfl⟩
 have hiR : (Tryz.prog.info? 38).map (·.size) = some RV.length := by rw [← hRV]; exact infoRef hh _ _
 rw [hRV] at hA1 hw1'
 have HST : Hid (∀ W, Below w1.heap.size w1 W → W.cell? ⟨gx, 0, none⟩ = some (.pointer (some ⟨p, 0, none⟩)) ∧ W.cell? ⟨gx, 2, none⟩ = some (.slice (some ⟨ga, 0, none⟩) n ca) ∧ W.rangeAt S 0 RV) := hide (fun W hW => by
  have hb := hb1.trans (hW.mono hb1.size)
  have hA := hC.arr.below hb
  exact ⟨arr_cell hA rfl, arr_cell hA rfl, arr_range (ds := []) (by rw [List.append_nil]; exact hA1.below hW)⟩)
 have HPC : Hid (∀ W, Below w.heap.size w W → W.cell? ⟨p, 2, none⟩ = some (.int .i64 rd) ∧ W.cell? ⟨p, 3, none⟩ = some (.int .i64 wt) ∧ W.cell? ⟨p, 4, none⟩ = some (.int .i64 fl)) := hide (fun W hW => by
  have hB := hblk.below hW
  exact ⟨arr_cell hB rfl, arr_cell hB rfl, arr_cell hB rfl⟩)
 have HAC : Hid (∀ W, Below w.heap.size w W → Calls Tryz.prog 25 #[.pointer (some ⟨p, 0, none⟩)] W fun e w' => e = .returned (.agg #[.int .i64 rd, .int .i64 wt, .int .i64 fl]) ∧ Below W.heap.size W w') := hide (fun W hW => by
  obtain ⟨q1, q2, q3⟩ := unhide HPC W hW
  exact acts_calls q1 q2 q3)
 have HWR : Hid (IntKind.i64.wrap (rd + 0) = rd ∧ IntKind.i64.wrap (wt + 0) = wt) := hide ⟨by rw [IntKind.wrap_i64]; omega, by rw [IntKind.wrap_i64]; omega⟩
 obtain ⟨bk, hbk⟩ : ∃ bk, (if f = 61 then fi else 0) = bk := ⟨_, rfl⟩
 obtain ⟨m, hm⟩ : ∃ m : Nat, 0 = m := ⟨_, rfl⟩
 have HRD : Hid (∀ W, Below w.heap.size w W → Calls Tryz.prog 41 #[.slice (some ⟨ga, 0, none⟩) n ca, .int .i64 heap, .agg RV.toArray] W fun e w' => ∃ ta tn tc na nc, e = .returned (.agg (tV (.slice ta tn tc) bk f (.slice na m nc) false).toArray) ∧ Hid (Own8 w' W.heap.size (.slice ta tn tc) []) ∧ Below W.heap.size W w') := hide (fun W _ => by
  rw [← hRV, ← hbk, ← hm]
  refine (rread_no hh hf).mono ?_
  rintro e w' ⟨rfl, hb⟩
  exact ⟨none, 0, 0, none, 0, rfl, hide (Own8.nil _ _), hb⟩)
 have HGT : Hid (∀ W, Below w.heap.size w W → Calls Tryz.prog 36 #[.pointer (some ⟨p, 0, none⟩), .int .i64 heap, .agg RV.toArray] W fun e w' => ∃ ra rn rc, e = .returned (.tuple #[.slice ra rn rc, .int .i64 bk, .int .i64 f]) ∧ Hid (IsB w' (.slice ra rn rc) [] ∧ Dk w' p gl gm V (D.reads m) ∧ Up (fun b => b = p) W w')) := hide (fun W hW => by
  rw [← hRV, ← hbk, ← hm, reads_zero]
  have hNR : ∀ W2, Below W.heap.size W W2 → Calls Tryz.prog 69 #[.pointer (some ⟨p, 0, none⟩), .int .i64 heap, .agg (refV hs fi le).toArray] W2 fun e w' => e = .returned (.tuple #[.pointer none, .int .i64 f]) ∧ Below W2.heap.size W2 w' := fun W2 h2 => newReader_no ((hC.dk.below hW).below h2) hC.dn hh hf
  have hD := hC.dk.below hW
  by_cases h61 : f = 61
  · subst h61
    refine (get_61 hh hNR).mono ?_
    rintro e w' ⟨rfl, hb⟩
    exact ⟨none, 0, 0, rfl, hide ⟨(Own8.nil w' 0).isB, hD.below hb, Up.of_below hb⟩⟩
  · refine (get_ref hh (by rcases hf with q | q | q <;> omega) hNR).mono ?_
    rintro e w' ⟨rfl, hb⟩
    rw [if_neg h61]
    exact ⟨none, 0, 0, rfl, hide ⟨(Own8.nil w' 0).isB, hD.below hb, Up.of_below hb⟩⟩)
 have HM5 : Hid (m ≤ 2185) := hide (by omega)
 have HPL : Hid (p < w.heap.size) := hide hC.dk.blk.lt
 have HRW : Hid (D.rd = rd ∧ D.wt = wt ∧ D.fl = fl ∧ IntKind.i64.wrap (rd + (m : Int)) = rd + (m : Int) ∧ IntKind.i64.wrap (wt + 0) = wt) := hide ⟨hrd, hwt, hfl, by have := HM5.out; rw [IntKind.wrap_i64]; omega, by rw [IntKind.wrap_i64]; omega⟩
 have HSU : Hid (∀ W0 W, Below w1.heap.size w1 W0 → Up (fun b => b = p) W0 W → W.cell? ⟨gx, 0, none⟩ = some (.pointer (some ⟨p, 0, none⟩)) ∧ W.cell? ⟨gx, 2, none⟩ = some (.slice (some ⟨ga, 0, none⟩) n ca) ∧ W.rangeAt S 0 RV) := hide (fun W0 W h0 hU => by
  have hb := hb1.trans (h0.mono hb1.size)
  have hA := hC.arr.below hb
  have hA2 := hA.up hU (fun e => absurd (hA.ty.one (e ▸ (hC.dk.below hb).blk.ty)) (by decide))
  have hR := (hA1.below h0).up hU (fun e => by have := HPL.out; omega)
  exact ⟨arr_cell hA2 rfl, arr_cell hA2 rfl, arr_range (ds := []) (by rw [List.append_nil]; exact hR)⟩)
 have HBC : Hid (∀ W0 W, Below w.heap.size w W0 → Up (fun b => b = p) W0 W → Dk W p gl gm V (D.reads m) → Bc W gx ga ca n us ims p gl gm V (D.reads m) g gr B0) := hide (fun W0 W h0 hU hD => (hC.below h0).later hp hU hD)
 have HOP : Hid (∀ W, Bc W gx ga ca n us ims p gl gm V (D.reads m) g gr B0 → Calls Tryz.prog 42 #[.pointer (some ⟨gx, 0, none⟩), .int .i64 heap, .agg RV.toArray] W fun e w' => e = .returned (.tuple #[.pointer none, .bool true]) ∧ Below W.heap.size W w') := hide (fun W hB => by
  have q := open_no hB hh hf hw0 (by show D.wt ≤ _; omega) (by show 0 ≤ D.rd + (m : Int); omega) (by show D.rd + (m : Int) ≤ _; have := HM5.out; omega)
  rw [hRV] at q
  exact q)
 rw [hRV]
 have HW1 := hide hw1'
 have HS := hide hS
 have HB1 := hide hb1
 clear hC hw0 hw1 hr0 hr1 hblk hrd hwt hfl hw1' hS hb1 hA1 hRV HPC HWR
 clear hh hf hp hbk hm
 go_enter Tryz.func14, Tryz.ntmps14
 go_wp2_with (rw [HW1.out, HS.out])
 have hz0 : Below w1.heap.size w1 w1.drew := (Below.refl _ _).drew
 go_cut [7] (fun a wc => ∃ gt ta tn tc na nc, a = .pointer (some ⟨gt, 0, none⟩) ∧ Hid (Arr wc gt 104 (tV (.slice ta tn tc) bk f (.slice na m nc) false) ∧ IsB wc (.slice ta tn tc) [] ∧ (0 < ([] : List Int).length → ∀ b, blkOf (.slice ta tn tc) = some b → w.heap.size ≤ b) ∧ w.heap.size ≤ gt ∧ Below w1.heap.size w1 wc))
 case first =>
  refine wp_region_held_drew (S := fun W => W.cell? ⟨gx, 0, none⟩ = some (.pointer (some ⟨p, 0, none⟩)) ∧ W.cell? ⟨gx, 2, none⟩ = some (.slice (some ⟨ga, 0, none⟩) n ca) ∧ W.rangeAt S 0 RV) (by kernel_rfl) (unhide HST _ hz0) (fun hHeld => ?_)
  refine wpAnyH_take (i := 0) (v := .pointer (some ⟨gx, 0, none⟩)) rfl (by kernel_rfl) (by kernel_rfl) (by kernel_rfl) (fun _ _ _ h => h) (Or.inl ⟨by rfl, fun w hSw => by obtain ⟨hS1, hS2, hS3⟩ := hSw; go_simp⟩) (by assumption) ?_
  simp only [fGa, fGz, Act.put, fSa, fSz, fSs]
  refine wpAnyH_take (i := 1) (v := .pointer (some ⟨gx, 0, none⟩)) rfl (by kernel_rfl) (by kernel_rfl) (by kernel_rfl) (fun _ _ _ h => h) (Or.inl ⟨by rfl, fun w hSw => by obtain ⟨hS1, hS2, hS3⟩ := hSw; go_simp⟩) (by assumption) ?_
  simp only [fGa, fGs, fGz, Act.put, fSa, fSz, fSs]
  refine wpAnyH_take (i := 2) (v := .pointer (some ⟨gx, 2, none⟩)) rfl (by kernel_rfl) (by kernel_rfl) (by kernel_rfl) (fun _ _ _ h => h) (Or.inl ⟨by rfl, fun w hSw => by obtain ⟨hS1, hS2, hS3⟩ := hSw; go_simp⟩) (by assumption) ?_
  simp only [fGa, fGs, fGz, Act.put, fSa, fSz, fSs]
  refine wpAnyH_take (i := 3) (v := .slice (some ⟨ga, 0, none⟩) n ca) rfl (by kernel_rfl) (by kernel_rfl) (by kernel_rfl) (fun _ _ _ h => h) (Or.inl ⟨by rfl, fun w hSw => by obtain ⟨hS1, hS2, hS3⟩ := hSw; go_simp⟩) (by assumption) ?_
  simp only [fGa, fGs, fGz, Act.put, fSa, fSz, fSs]
  refine wpAnyH_take (i := 4) (v := .int .i64 heap) rfl (by kernel_rfl) (by kernel_rfl) (by kernel_rfl) (fun _ _ _ h => h) (Or.inl ⟨by rfl, fun w hSw => by obtain ⟨hS1, hS2, hS3⟩ := hSw; go_simp⟩) (by assumption) ?_
  simp only [fGa, fGs, fGz, Act.put, fSa, fSz, fSs]
  refine wpAnyH_take (i := 5) (v := .agg (RV).toArray) rfl (by kernel_rfl) (by kernel_rfl) (by kernel_rfl) (fun _ _ _ h => h) (yieldsIf_load_mid (by rfl) _ _ rfl _ _ rfl _ _ (fun w hSw => hSw.2.2) Tryz.underlying38 rfl hiR) (by assumption) ?_
  simp only [fGa, fGs, fGz, Act.put, fSa, fSz, fSs]
  refine wpAnyH_ready (rs := [6, 7]) (by kernel_rfl) (by simp) (AllReadyH.cons rfl (fun K hK => ?_) (AllReadyH.cons rfl (fun K hK => ?_) AllReadyH.nil))
  · refine step_call3C (by rfl) 41 rread_enter (.tmp 18) (.tmp 19) (.tmp 20) _ rfl rfl rfl rfl (unhide HRD _ (HB1.out.trans (hz0.mono HB1.out.size))) ?_
    rintro e w2 ⟨ta, tn, tc, na, nc, rfl, HO2, hb2⟩
    have hz1 : Below w1.heap.size w1 w2 := hz0.trans (hb2.mono hz0.size)
    refine ⟨_, rfl, ?_⟩
    refine hK.out _ _ (unhide HST _ hz1) (fun hJ1 => ?_)
    clear hK K
    simp only [fGa, fGs, fGz, Act.put, fSa, fSz, fSs]
    refine wpAnyH_ready (rs := [7]) (by kernel_rfl) (by simp) (AllReadyH.cons rfl (fun K hK => ?_) AllReadyH.nil)
    refine step_allocT (by rfl) rfl ?_
    refine hK.out _ _ (unhide HST _ (hz1.alloc hz1.size _)) (fun hJ2 => ?_)
    clear hK K
    simp only [fGa, fGs, fGz, Act.put, fSa, fSz, fSs]
    refine wpAnyH_ready (rs := [8]) (by kernel_rfl) (by simp) (AllReadyH.cons rfl (fun K hK => ?_) AllReadyH.nil)
    refine step_storeArr (cs' := tV (.slice ta tn tc) bk f (.slice na m nc) false) (by rfl) (.tmp 7) (.tmp 21) 104 rfl rfl rfl (Arr.new w2 _ _) (infoTold _ rfl) rfl (by unfold tV; simp [Value.oneCell']) ?_
    intro w3 hA3 hW3
    have hz3 : Below w1.heap.size w1 w3 := hW3.below _ _ (hz1.alloc hz1.size _) hz1.size
    have hz23 : Below w2.heap.size w2 w3 := hW3.below _ _ ((Below.refl _ _).alloc (Nat.le_refl _) _) (Nat.le_refl _)
    refine hK.out _ _ (unhide HST _ hz3) (fun hJ3 => ?_)
    clear hK K
    simp only [fGa, fGs, fGz, Act.put]
    refine wpAnyH_done (by kernel_rfl) ?_ _
    go_wp2
    go_meet
    exact ⟨w2.heap.size, ta, tn, tc, na, nc, rfl, hide ⟨hA3, (HO2.out.below hz23).isB, fun hp b hb => (by obtain ⟨g', c', hv, hB, _⟩ := HO2.out.head hp; rw [hv] at hb; have e1 : g' = b := Option.some.inj hb; have e2 : w1.heap.size ≤ g' := hB; have e3 := HB1.out.size; omega), (by have := hz1.size; have := HB1.out.size; omega), hz3⟩⟩
  · refine step_allocT (by rfl) rfl ?_
    have hza : Below w1.heap.size w1 (w1.drew.alloc (.cells (tV (.slice none 0 0) 0 0 (.slice none 0 0) false).toArray 104)) := hz0.alloc hz0.size _
    refine hK.out _ _ (unhide HST _ hza) (fun hJ1 => ?_)
    clear hK K
    simp only [fGa, fGs, fGz, Act.put, fSa, fSz, fSs]
    refine wpAnyH_ready (rs := [6]) (by kernel_rfl) (by simp) (AllReadyH.cons rfl (fun K hK => ?_) AllReadyH.nil)
    refine step_call3C (by rfl) 41 rread_enter (.tmp 18) (.tmp 19) (.tmp 20) _ rfl rfl rfl rfl (unhide HRD _ (HB1.out.trans (hza.mono HB1.out.size))) ?_
    rintro e w2 ⟨ta, tn, tc, na, nc, rfl, HO2, hb2⟩
    have hz1 : Below w1.heap.size w1 w2 := hza.trans (hb2.mono hza.size)
    refine ⟨_, rfl, ?_⟩
    refine hK.out _ _ (unhide HST _ hz1) (fun hJ2 => ?_)
    clear hK K
    simp only [fGa, fGs, fGz, Act.put, fSa, fSz, fSs]
    refine wpAnyH_ready (rs := [8]) (by kernel_rfl) (by simp) (AllReadyH.cons rfl (fun K hK => ?_) AllReadyH.nil)
    refine step_storeArr (cs' := tV (.slice ta tn tc) bk f (.slice na m nc) false) (by rfl) (.tmp 7) (.tmp 21) 104 rfl rfl rfl ((Arr.new w1.drew _ _).below hb2) (infoTold _ rfl) rfl (by unfold tV; simp [Value.oneCell']) ?_
    intro w3 hA3 hW3
    have hz3 : Below w1.heap.size w1 w3 := hW3.below _ _ hz1 (Nat.le_refl _)
    have hgt : w1.drew.heap.size < (w1.drew.alloc (.cells (tV (.slice none 0 0) 0 0 (.slice none 0 0) false).toArray 104)).heap.size := by simp [World.alloc]
    refine hK.out _ _ (unhide HST _ hz3) (fun hJ3 => ?_)
    clear hK K
    simp only [fGa, fGs, fGz, Act.put]
    refine wpAnyH_done (by kernel_rfl) ?_ _
    go_wp2
    go_meet
    exact ⟨w1.drew.heap.size, ta, tn, tc, na, nc, rfl, hide ⟨hA3, HO2.out.wroteB hW3 hgt, fun hp b hb => (by obtain ⟨g', c', hv, hB, _⟩ := HO2.out.head hp; rw [hv] at hb; have e1 : g' = b := Option.some.inj hb; have e2 := hza.size; have e3 := HB1.out.size; omega), HB1.out.size, hz3⟩⟩
 case rest =>
  obtain ⟨gt, ta, tn, tc, na, nc, rfl, HX⟩ := hcut
  clear hz0 HRD
  obtain ⟨w2, hw2⟩ : ∃ w2, wc = w2 := ⟨_, rfl⟩
  subst hw2
  obtain ⟨hAt, hIt, hlt, hgt, hz2⟩ := HX.out
  have hb02 : Below w.heap.size w wc := HB1.out.trans (hz2.mono HB1.out.size)
  have HAC2 := hide (unhide HAC wc hb02)
  have hx20 := (unhide HST wc hz2).1
  have HTW : Hid (∀ W0 W, Below wc.heap.size wc W0 → Up (fun b => b = p) W0 W → W.cell? ⟨gt, 0, none⟩ = some (.slice ta tn tc) ∧ W.cell? ⟨gt, 1, none⟩ = some (.int .i64 bk) ∧ W.cell? ⟨gt, 2, none⟩ = some (.int .i64 f) ∧ W.cell? ⟨gt, 3, none⟩ = some (.slice na m nc) ∧ W.cell? ⟨gt, 4, none⟩ = some (.bool false) ∧ IsB W (.slice ta tn tc) [] ∧ W.cell? ⟨gx, 0, none⟩ = some (.pointer (some ⟨p, 0, none⟩)) ∧ W.cell? ⟨gx, 2, none⟩ = some (.slice (some ⟨ga, 0, none⟩) n ca) ∧ W.rangeAt S 0 RV) := hide (fun W0 W h0 hU => by
   have hA := (hAt.below h0).up hU (fun e => by have := HPL.out; omega)
   exact ⟨arr_cell hA rfl, arr_cell hA rfl, arr_cell hA rfl, arr_cell hA rfl, arr_cell hA rfl, (hIt.below h0).up0 hU (fun hp b hb e => by have := hlt hp b hb; have := HPL.out; omega), unhide HSU W0 W (hz2.trans (h0.mono hz2.size)) hU⟩)
  have HZ2 := hide hz2
  have HB02 := hide hb02
  clear HX hAt hIt hlt hgt hz2 HAC hb02
  go_wp2_with fail
  refine (unhide HAC2).mono ?_
  rintro e w2a ⟨rfl, hb2a⟩
  obtain ⟨gA, hgA⟩ : ∃ gA, w2a.heap.size = gA := ⟨_, rfl⟩
  have hA3 := Arr.new w2a [.int .i64 0, .int .i64 0, .int .i64 0] 80
  rw [hgA] at hA3
  have hiA : (Tryz.prog.info? 80).map (·.size) = some [Value.int .i64 rd, .int .i64 wt, .int .i64 fl].length := by kernel_rfl
  have h1A : ∀ u ∈ [Value.int .i64 rd, .int .i64 wt, .int .i64 fl], u.oneCell' = true := by simp [Value.oneCell']
  have HB3 : Hid (∀ w3, Wrote (w2a.alloc (.cells #[.int .i64 0, .int .i64 0, .int .i64 0] 80)) w3 gA → Below wc.heap.size wc w3 ∧ wc.heap.size ≤ gA) := hide (fun w3 hW3 => ⟨hW3.below _ _ (hb2a.alloc hb2a.size _) (by rw [← hgA]; exact hb2a.size), by rw [← hgA]; exact hb2a.size⟩)
  have HGA := hide hgA
  clear HAC2 hb2a hgA hx20
  go_wp2_with (first
   | (refine wpList_storeArr2 (cs' := [Value.int .i64 rd, .int .i64 wt, .int .i64 fl]) rfl (.tmp 8) (.tmp 26) 80 rfl rfl rfl hA3 hiA rfl h1A ?_; intro w3 hAc3 hWr3
      have HAC3 := hide hAc3
      have HBB3 := hide (unhide HB3 w3 hWr3)
      clear hAc3 hWr3 hA3)
   | rw [HGA.out])
  have hy0 : Below w3.heap.size w3 w3.drew := (Below.refl _ _).drew
  have hb23 : Below wc.heap.size wc w3 := HBB3.out.1
  have hb03 : Below w.heap.size w w3 := HB02.out.trans (hb23.mono HB02.out.size)
  have hz3 : Below w1.heap.size w1 w3 := HZ2.out.trans (hb23.mono HZ2.out.size)
  have HB03 := hide hb03
  have HS3 := hide (unhide HST w3.drew (hz3.trans (hy0.mono hz3.size)))
  have HGT3 := hide (unhide HGT w3.drew (hb03.trans (hy0.mono hb03.size)))
  have HU3 : Hid (∀ W, Up (fun b => b = p) w3.drew W → W.cell? ⟨gt, 0, none⟩ = some (.slice ta tn tc) ∧ W.cell? ⟨gt, 1, none⟩ = some (.int .i64 bk) ∧ W.cell? ⟨gt, 2, none⟩ = some (.int .i64 f) ∧ W.cell? ⟨gt, 3, none⟩ = some (.slice na m nc) ∧ W.cell? ⟨gt, 4, none⟩ = some (.bool false) ∧ IsB W (.slice ta tn tc) [] ∧ W.cell? ⟨gx, 0, none⟩ = some (.pointer (some ⟨p, 0, none⟩)) ∧ W.cell? ⟨gx, 2, none⟩ = some (.slice (some ⟨ga, 0, none⟩) n ca) ∧ W.rangeAt S 0 RV) := hide (fun W hU => unhide HTW w3.drew W (hb23.trans (hy0.mono hb23.size)) hU)
  have HA3 : Hid (∀ W, Up (fun b => b = p) w3.drew W → W.rangeAt gA 0 [Value.int .i64 rd, .int .i64 wt, .int .i64 fl]) := hide (fun W hU => by
   have hA : Arr w3.drew gA 80 _ := HAC3.out
   have hA := hA.up hU (fun e => by have := HPL.out; have := HB02.out.size; have := HBB3.out.2; omega)
   exact arr_range (ds := []) (by rw [List.append_nil]; exact hA))
  have HBC3 : Hid (∀ W, Up (fun b => b = p) w3.drew W → Dk W p gl gm V (D.reads m) → Bc W gx ga ca n us ims p gl gm V (D.reads m) g gr B0) := hide (fun W hU hD => unhide HBC w3.drew W (hb03.trans (hy0.mono hb03.size)) hU hD)
  clear HGT HST HSU HTW hb03 hz3 HB3 hb23
  refine wp_region_held_drew (S := fun W => W.cell? ⟨gx, 0, none⟩ = some (.pointer (some ⟨p, 0, none⟩)) ∧ W.cell? ⟨gx, 2, none⟩ = some (.slice (some ⟨ga, 0, none⟩) n ca) ∧ W.rangeAt S 0 RV) (by kernel_rfl) (HS3.out) (fun hHeld => ?_)
  refine wpAnyH_take (i := 0) (v := .pointer (some ⟨gx, 0, none⟩)) rfl (by kernel_rfl) (by kernel_rfl) (by kernel_rfl) (fun _ _ _ h => h) (Or.inl ⟨by rfl, fun w hSw => by obtain ⟨hS1, hS2, hS3⟩ := hSw; go_simp⟩) (by assumption) ?_
  simp only [fGa, fGz, Act.put, fSa, fSz, fSs]
  refine wpAnyH_take (i := 1) (v := .pointer (some ⟨gx, 0, none⟩)) rfl (by kernel_rfl) (by kernel_rfl) (by kernel_rfl) (fun _ _ _ h => h) (Or.inl ⟨by rfl, fun w hSw => by obtain ⟨hS1, hS2, hS3⟩ := hSw; go_simp⟩) (by assumption) ?_
  simp only [fGa, fGs, fGz, Act.put, fSa, fSz, fSs]
  refine wpAnyH_take (i := 2) (v := .pointer (some ⟨gx, 0, none⟩)) rfl (by kernel_rfl) (by kernel_rfl) (by kernel_rfl) (fun _ _ _ h => h) (Or.inl ⟨by rfl, fun w hSw => by obtain ⟨hS1, hS2, hS3⟩ := hSw; go_simp⟩) (by assumption) ?_
  simp only [fGa, fGs, fGz, Act.put, fSa, fSz, fSs]
  refine wpAnyH_take (i := 3) (v := .pointer (some ⟨p, 0, none⟩)) rfl (by kernel_rfl) (by kernel_rfl) (by kernel_rfl) (fun _ _ _ h => h) (Or.inl ⟨by rfl, fun w hSw => by obtain ⟨hS1, hS2, hS3⟩ := hSw; go_simp⟩) (by assumption) ?_
  simp only [fGa, fGs, fGz, Act.put, fSa, fSz, fSs]
  refine wpAnyH_take (i := 4) (v := .int .i64 heap) rfl (by kernel_rfl) (by kernel_rfl) (by kernel_rfl) (fun _ _ _ h => h) (Or.inl ⟨by rfl, fun w hSw => by obtain ⟨hS1, hS2, hS3⟩ := hSw; go_simp⟩) (by assumption) ?_
  simp only [fGa, fGs, fGz, Act.put, fSa, fSz, fSs]
  refine wpAnyH_take (i := 5) (v := .agg (RV).toArray) rfl (by kernel_rfl) (by kernel_rfl) (by kernel_rfl) (fun _ _ _ h => h) (yieldsIf_load_mid (by rfl) _ _ rfl _ _ rfl _ _ (fun w hSw => hSw.2.2) Tryz.underlying38 rfl hiR) (by assumption) ?_
  simp only [fGa, fGs, fGz, Act.put, fSa, fSz, fSs]
  refine wpAnyH_ready (rs := [6]) (by kernel_rfl) (by simp) (AllReadyH.cons rfl (fun K hK => ?_) AllReadyH.nil)
  refine step_call3C (by rfl) 36 get_enter6 (.tmp 31) (.tmp 32) (.tmp 33) _ rfl rfl rfl rfl (unhide HGT3) ?_
  rintro e w4 ⟨ra, rn, rc, rfl, HG4⟩
  refine ⟨_, rfl, ?_⟩
  refine hK.out _ _ ((unhide HU3 _ HG4.out.2.2).2.2.2.2.2.2) (fun hJ2 => ?_)
  clear hK K
  simp only [fGa, fGs, fGz, Act.put, fSa, fSz, fSs]
  refine wpAnyH_take (i := 7) (v := .tuple #[.slice ra rn rc, .int .i64 bk, .int .i64 f]) rfl (by kernel_rfl) (by kernel_rfl) (by kernel_rfl) (fun _ _ _ h => h) (Or.inl ⟨by rfl, fun w hSw => by obtain ⟨hS1, hS2, hS3⟩ := hSw; go_simp⟩) (by assumption) ?_
  simp only [fGa, fGs, fGz, Act.put, fSa, fSz, fSs]
  refine wpAnyH_take (i := 8) (v := .slice (ra) rn rc) rfl (by kernel_rfl) (by kernel_rfl) (by kernel_rfl) (fun _ _ _ h => h) (Or.inl ⟨by rfl, fun w hSw => by obtain ⟨hS1, hS2, hS3⟩ := hSw; go_simp⟩) (by assumption) ?_
  simp only [fGa, fGs, fGz, Act.put, fSa, fSz, fSs]
  refine wpAnyH_take (i := 9) (v := .int .i64 bk) rfl (by kernel_rfl) (by kernel_rfl) (by kernel_rfl) (fun _ _ _ h => h) (Or.inl ⟨by rfl, fun w hSw => by obtain ⟨hS1, hS2, hS3⟩ := hSw; go_simp⟩) (by assumption) ?_
  simp only [fGa, fGs, fGz, Act.put, fSa, fSz, fSs]
  refine wpAnyH_take (i := 10) (v := .int .i64 f) rfl (by kernel_rfl) (by kernel_rfl) (by kernel_rfl) (fun _ _ _ h => h) (Or.inl ⟨by rfl, fun w hSw => by obtain ⟨hS1, hS2, hS3⟩ := hSw; go_simp⟩) (by assumption) ?_
  simp only [fGa, fGs, fGz, Act.put, fSa, fSz, fSs]
  refine wpAnyH_take (i := 11) (v := .slice (ra) rn rc) rfl (by kernel_rfl) (by kernel_rfl) (by kernel_rfl) (fun _ _ _ h => h) (Or.inl ⟨by rfl, fun w hSw => by obtain ⟨hS1, hS2, hS3⟩ := hSw; go_simp⟩) (by assumption) ?_
  simp only [fGa, fGs, fGz, Act.put, fSa, fSz, fSs]
  refine wpAnyH_take (i := 12) (v := .int .i64 bk) rfl (by kernel_rfl) (by kernel_rfl) (by kernel_rfl) (fun _ _ _ h => h) (Or.inl ⟨by rfl, fun w hSw => by obtain ⟨hS1, hS2, hS3⟩ := hSw; go_simp⟩) (by assumption) ?_
  simp only [fGa, fGs, fGz, Act.put, fSa, fSz, fSs]
  refine wpAnyH_take (i := 13) (v := .int .i64 f) rfl (by kernel_rfl) (by kernel_rfl) (by kernel_rfl) (fun _ _ _ h => h) (Or.inl ⟨by rfl, fun w hSw => by obtain ⟨hS1, hS2, hS3⟩ := hSw; go_simp⟩) (by assumption) ?_
  simp only [fGa, fGs, fGz, Act.put, fSa, fSz, fSs]
  refine wpAnyH_done (by kernel_rfl) ?_ _
  obtain ⟨hIr, hD4, hU4⟩ := HG4.out
  have hBC4 := unhide HBC3 w4 hU4 hD4
  have hBU4 : Hid (Up (fun b => b = p) w w4) := hide ((Up.of_below (HB03.out.trans (hy0.mono HB03.out.size))).trans hU4 (fun b h => Or.inl h))
  have HF4 : Hid (∀ W, Below w4.heap.size w4 W → (W.cell? ⟨gt, 0, none⟩ = some (.slice ta tn tc) ∧ W.cell? ⟨gt, 1, none⟩ = some (.int .i64 bk) ∧ W.cell? ⟨gt, 2, none⟩ = some (.int .i64 f) ∧ W.cell? ⟨gt, 3, none⟩ = some (.slice na m nc) ∧ W.rangeAt gA 0 [Value.int .i64 rd, .int .i64 wt, .int .i64 fl]) ∧ IsB W (.slice ta tn tc) [] ∧ IsB W (.slice ra rn rc) [] ∧ Calls Tryz.prog 28 #[.pointer (some ⟨gx, 0, none⟩), .agg [Value.int .i64 rd, .int .i64 wt, .int .i64 fl].toArray, .int .i64 (m : Int), .int .i64 0] W (fun e w' => e = .returned (.bool true) ∧ Below W.heap.size W w')) := hide (fun W hW => by
   have hUW : Up (fun b => b = p) w3.drew W := hU4.then_below hW
   obtain ⟨c0, c1, c2, c3, _, c5, c6, _⟩ := unhide HU3 W hUW
   have hK := (hBC4.below hW).dk.blk
   have hb2 : Arr W p _ _ := hK
   have e2 : W.cell? ⟨p, 2, none⟩ = some (.int .i64 (rd + (m : Int))) := by rw [arr_cell hK rfl, ← HRW.out.1]; rfl
   have e3 : W.cell? ⟨p, 3, none⟩ = some (.int .i64 wt) := by rw [arr_cell hK rfl, ← HRW.out.2.1]; rfl
   have e4 : W.cell? ⟨p, 4, none⟩ = some (.int .i64 fl) := by rw [arr_cell hK rfl, ← HRW.out.2.2.1]; rfl
   exact ⟨⟨c0, c1, c2, c3, unhide HA3 W hUW⟩, c5, hIr.below hW, bacts_calls c6 e2 e3 e4 HRW.out.2.2.2.1 HRW.out.2.2.2.2⟩)
  have hv0 : Below w4.heap.size w4 w4.drew := (Below.refl _ _).drew
  have HBC4 := hide hBC4
  have HU4 := hide hU4
  have hbf : (f != f) = false := by simp
  have hbb : (bk != bk) = false := by simp
  have hff : (f == f) = true := by simp
  clear hIr hD4 hU4 hBC4 HBC3 HS3 HGT3 HG4 hHeld hJ2 HA3 HRW
  go_wp2_with fail
  refine wp_region_held_drew (S := fun W => W.cell? ⟨gt, 0, none⟩ = some (.slice ta tn tc) ∧ W.cell? ⟨gt, 1, none⟩ = some (.int .i64 bk) ∧ W.cell? ⟨gt, 2, none⟩ = some (.int .i64 f) ∧ W.cell? ⟨gt, 3, none⟩ = some (.slice na m nc) ∧ W.rangeAt gA 0 [Value.int .i64 rd, .int .i64 wt, .int .i64 fl]) (by kernel_rfl) ((unhide HF4 _ hv0).1) (fun hHeld => ?_)
  refine wpAnyH_take (i := 0) (v := .int .i64 f) rfl (by kernel_rfl) (by kernel_rfl) (by kernel_rfl) (fun _ _ _ h => h) (Or.inl ⟨by rfl, fun w hSw => by obtain ⟨hS1, hS2, hS3, hS4, hS5⟩ := hSw; go_simp⟩) (by assumption) ?_
  simp only [fGa, fGz, Act.put, fSa, fSz, fSs]
  refine wpAnyH_take (i := 2) (v := .pointer (some ⟨gt, 2, none⟩)) rfl (by kernel_rfl) (by kernel_rfl) (by kernel_rfl) (fun _ _ _ h => h) (Or.inl ⟨by rfl, fun w hSw => by obtain ⟨hS1, hS2, hS3, hS4, hS5⟩ := hSw; go_simp⟩) (by assumption) ?_
  simp only [fGa, fGs, fGz, Act.put, fSa, fSz, fSs]
  refine wpAnyH_take (i := 3) (v := .int .i64 f) rfl (by kernel_rfl) (by kernel_rfl) (by kernel_rfl) (fun _ _ _ h => h) (Or.inl ⟨by rfl, fun w hSw => by obtain ⟨hS1, hS2, hS3, hS4, hS5⟩ := hSw; go_simp⟩) (by assumption) ?_
  simp only [fGa, fGs, fGz, Act.put, fSa, fSz, fSs]
  refine wpAnyH_ready (rs := [1]) (by kernel_rfl) (by simp) (AllReadyH.cons rfl (fun K hK => ?_) AllReadyH.nil)
  refine step_call1C (by rfl) 19 num6_enter (.tmp 38) _ rfl rfl (num6_calls f _) ?_
  rintro e wn ⟨rfl, hwn⟩
  obtain rfl := hwn.symm
  clear hwn
  refine ⟨_, rfl, ?_⟩
  refine hK.out _ _ ((unhide HF4 _ hv0).1) (fun hK1 => ?_)
  clear hK K
  simp only [fGa, fGs, fGz, Act.put, fSa, fSz, fSs]
  refine wpAnyH_take (i := 4) (v := .bool false) rfl (by kernel_rfl) (by kernel_rfl) (by kernel_rfl) (fun _ _ _ h => h) (Or.inl ⟨by rfl, fun w hSw => by obtain ⟨hS1, hS2, hS3, hS4, hS5⟩ := hSw; go_simp⟩) (by assumption) ?_
  simp only [fGa, fGs, fGz, Act.put, fSa, fSz, fSs]
  refine wpAnyH_take (i := 5) (v := .bool false) rfl (by kernel_rfl) (by kernel_rfl) (by kernel_rfl) (fun _ _ _ h => h) (Or.inl ⟨by rfl, fun w hSw => by obtain ⟨hS1, hS2, hS3, hS4, hS5⟩ := hSw; go_simp⟩) (by assumption) ?_
  simp only [fGa, fGs, fGz, Act.put, fSa, fSz, fSs]
  refine wpAnyH_take (i := 6) (v := .int .i64 bk) rfl (by kernel_rfl) (by kernel_rfl) (by kernel_rfl) (fun _ _ _ h => h) (Or.inl ⟨by rfl, fun w hSw => by obtain ⟨hS1, hS2, hS3, hS4, hS5⟩ := hSw; go_simp⟩) (by assumption) ?_
  simp only [fGa, fGs, fGz, Act.put, fSa, fSz, fSs]
  refine wpAnyH_take (i := 7) (v := .pointer (some ⟨gt, 1, none⟩)) rfl (by kernel_rfl) (by kernel_rfl) (by kernel_rfl) (fun _ _ _ h => h) (Or.inl ⟨by rfl, fun w hSw => by obtain ⟨hS1, hS2, hS3, hS4, hS5⟩ := hSw; go_simp⟩) (by assumption) ?_
  simp only [fGa, fGs, fGz, Act.put, fSa, fSz, fSs]
  refine wpAnyH_take (i := 8) (v := .int .i64 bk) rfl (by kernel_rfl) (by kernel_rfl) (by kernel_rfl) (fun _ _ _ h => h) (Or.inl ⟨by rfl, fun w hSw => by obtain ⟨hS1, hS2, hS3, hS4, hS5⟩ := hSw; go_simp⟩) (by assumption) ?_
  simp only [fGa, fGs, fGz, Act.put, fSa, fSz, fSs]
  refine wpAnyH_take (i := 9) (v := .bool false) rfl (by kernel_rfl) (by kernel_rfl) (by kernel_rfl) (fun _ _ _ h => h) (Or.inl ⟨by rfl, fun w hSw => by obtain ⟨hS1, hS2, hS3, hS4, hS5⟩ := hSw; go_simp⟩) (by assumption) ?_
  simp only [fGa, fGs, fGz, Act.put, fSa, fSz, fSs]
  refine wpAnyH_take (i := 10) (v := .bool false) rfl (by kernel_rfl) (by kernel_rfl) (by kernel_rfl) (fun _ _ _ h => h) (Or.inl ⟨by rfl, fun w hSw => by obtain ⟨hS1, hS2, hS3, hS4, hS5⟩ := hSw; go_simp⟩) (by assumption) ?_
  simp only [fGa, fGs, fGz, Act.put, fSa, fSz, fSs]
  refine wpAnyH_take (i := 11) (v := .bool false) rfl (by kernel_rfl) (by kernel_rfl) (by kernel_rfl) (fun _ _ _ h => h) (Or.inl ⟨by rfl, fun w hSw => by obtain ⟨hS1, hS2, hS3, hS4, hS5⟩ := hSw; go_simp⟩) (by assumption) ?_
  simp only [fGa, fGs, fGz, Act.put, fSa, fSz, fSs]
  refine wpAnyH_take (i := 12) (v := .slice (ra) rn rc) rfl (by kernel_rfl) (by kernel_rfl) (by kernel_rfl) (fun _ _ _ h => h) (Or.inl ⟨by rfl, fun w hSw => by obtain ⟨hS1, hS2, hS3, hS4, hS5⟩ := hSw; go_simp⟩) (by assumption) ?_
  simp only [fGa, fGs, fGz, Act.put, fSa, fSz, fSs]
  refine wpAnyH_take (i := 13) (v := .pointer (some ⟨gt, 0, none⟩)) rfl (by kernel_rfl) (by kernel_rfl) (by kernel_rfl) (fun _ _ _ h => h) (Or.inl ⟨by rfl, fun w hSw => by obtain ⟨hS1, hS2, hS3, hS4, hS5⟩ := hSw; go_simp⟩) (by assumption) ?_
  simp only [fGa, fGs, fGz, Act.put, fSa, fSz, fSs]
  refine wpAnyH_take (i := 14) (v := .slice (ta) tn tc) rfl (by kernel_rfl) (by kernel_rfl) (by kernel_rfl) (fun _ _ _ h => h) (Or.inl ⟨by rfl, fun w hSw => by obtain ⟨hS1, hS2, hS3, hS4, hS5⟩ := hSw; go_simp⟩) (by assumption) ?_
  simp only [fGa, fGs, fGz, Act.put, fSa, fSz, fSs]
  refine wpAnyH_ready (rs := [15]) (by kernel_rfl) (by simp) (AllReadyH.cons rfl (fun K hK => ?_) AllReadyH.nil)
  refine step_call2GC (by rfl) 27 same6_enterB (.tmp 50) (.tmp 52) _ rfl rfl rfl ((same6_calls (unhide HF4 _ hv0).2.2.1 (unhide HF4 _ hv0).2.1).mono (fun e w' h => (⟨by rw [h.1, decide_eq_true rfl], h.2⟩ : e = .returned (.bool true) ∧ w' = w4.drew))) ?_
  rintro e wn ⟨rfl, hwn⟩
  obtain rfl := hwn.symm
  clear hwn
  refine ⟨_, rfl, ?_⟩
  refine hK.out _ _ ((unhide HF4 _ hv0).1) (fun hK2 => ?_)
  clear hK K
  simp only [fGa, fGs, fGz, Act.put, fSa, fSz, fSs]
  refine wpAnyH_take (i := 16) (v := .bool false) rfl (by kernel_rfl) (by kernel_rfl) (by kernel_rfl) (fun _ _ _ h => h) (Or.inl ⟨by rfl, fun w hSw => by obtain ⟨hS1, hS2, hS3, hS4, hS5⟩ := hSw; go_simp⟩) (by assumption) ?_
  simp only [fGa, fGs, fGz, Act.put, fSa, fSz, fSs]
  refine wpAnyH_take (i := 17) (v := .bool false) rfl (by kernel_rfl) (by kernel_rfl) (by kernel_rfl) (fun _ _ _ h => h) (Or.inl ⟨by rfl, fun w hSw => by obtain ⟨hS1, hS2, hS3, hS4, hS5⟩ := hSw; go_simp⟩) (by assumption) ?_
  simp only [fGa, fGs, fGz, Act.put, fSa, fSz, fSs]
  refine wpAnyH_take (i := 18) (v := .bool false) rfl (by kernel_rfl) (by kernel_rfl) (by kernel_rfl) (fun _ _ _ h => h) (Or.inl ⟨by rfl, fun w hSw => by obtain ⟨hS1, hS2, hS3, hS4, hS5⟩ := hSw; go_simp⟩) (by assumption) ?_
  simp only [fGa, fGs, fGz, Act.put, fSa, fSz, fSs]
  refine wpAnyH_take (i := 19) (v := .pointer (some ⟨gx, 0, none⟩)) rfl (by kernel_rfl) (by kernel_rfl) (by kernel_rfl) (fun _ _ _ h => h) (Or.inl ⟨by rfl, fun w hSw => by obtain ⟨hS1, hS2, hS3, hS4, hS5⟩ := hSw; go_simp⟩) (by assumption) ?_
  simp only [fGa, fGs, fGz, Act.put, fSa, fSz, fSs]
  refine wpAnyH_take (i := 20) (v := .agg ([Value.int .i64 rd, .int .i64 wt, .int .i64 fl]).toArray) rfl (by kernel_rfl) (by kernel_rfl) (by kernel_rfl) (fun _ _ _ h => h) (yieldsIf_load_mid (by rfl) _ _ rfl _ _ rfl _ _ (fun w hSw => hSw.2.2.2.2) Tryz.underlying80 rfl hiA) (by assumption) ?_
  simp only [fGa, fGs, fGz, Act.put, fSa, fSz, fSs]
  refine wpAnyH_take (i := 21) (v := .pointer (some ⟨gt, 3, none⟩)) rfl (by kernel_rfl) (by kernel_rfl) (by kernel_rfl) (fun _ _ _ h => h) (Or.inl ⟨by rfl, fun w hSw => by obtain ⟨hS1, hS2, hS3, hS4, hS5⟩ := hSw; go_simp⟩) (by assumption) ?_
  simp only [fGa, fGs, fGz, Act.put, fSa, fSz, fSs]
  refine wpAnyH_take (i := 22) (v := .slice (na) m nc) rfl (by kernel_rfl) (by kernel_rfl) (by kernel_rfl) (fun _ _ _ h => h) (Or.inl ⟨by rfl, fun w hSw => by obtain ⟨hS1, hS2, hS3, hS4, hS5⟩ := hSw; go_simp⟩) (by assumption) ?_
  simp only [fGa, fGs, fGz, Act.put, fSa, fSz, fSs]
  refine wpAnyH_take (i := 23) (v := .int .i64 (m : Int)) rfl (by kernel_rfl) (by kernel_rfl) (by kernel_rfl) (fun _ _ _ h => h) (Or.inl ⟨by rfl, fun w hSw => by obtain ⟨hS1, hS2, hS3, hS4, hS5⟩ := hSw; go_simp⟩) (by assumption) ?_
  simp only [fGa, fGs, fGz, Act.put, fSa, fSz, fSs]
  refine wpAnyH_ready (rs := [24]) (by kernel_rfl) (by simp) (AllReadyH.cons rfl (fun K hK => ?_) AllReadyH.nil)
  refine step_call4GC (by rfl) 28 bacts_enter (.tmp 57) (.tmp 58) (.tmp 61) (.const (.int .i64 0)) _ rfl rfl rfl rfl rfl (unhide HF4 _ hv0).2.2.2 ?_
  rintro e w5 ⟨rfl, hb5⟩
  have hv1 : Below w4.heap.size w4 w5 := hv0.trans (hb5.mono hv0.size)
  refine ⟨_, rfl, ?_⟩
  refine hK.out _ _ ((unhide HF4 _ hv1).1) (fun hK3 => ?_)
  clear hK K
  simp only [fGa, fGs, fGz, Act.put, fSa, fSz, fSs]
  refine wpAnyH_take (i := 25) (v := .bool false) rfl (by kernel_rfl) (by kernel_rfl) (by kernel_rfl) (fun _ _ _ h => h) (Or.inl ⟨by rfl, fun w hSw => by obtain ⟨hS1, hS2, hS3, hS4, hS5⟩ := hSw; go_simp⟩) (by assumption) ?_
  simp only [fGa, fGs, fGz, Act.put, fSa, fSz, fSs]
  refine wpAnyH_take (i := 26) (v := .bool false) rfl (by kernel_rfl) (by kernel_rfl) (by kernel_rfl) (fun _ _ _ h => h) (Or.inl ⟨by rfl, fun w hSw => by obtain ⟨hS1, hS2, hS3, hS4, hS5⟩ := hSw; go_simp⟩) (by assumption) ?_
  simp only [fGa, fGs, fGz, Act.put, fSa, fSz, fSs]
  refine wpAnyH_done (by kernel_rfl) ?_ _
  have HB45 := hide hv1
  have HBC5 := hide (HBC4.out.below hv1)
  have HU5 : Hid (∀ W, Up (fun b => b = p) w5 W → W.cell? ⟨gt, 2, none⟩ = some (.int .i64 f) ∧ W.cell? ⟨gt, 3, none⟩ = some (.slice na m nc) ∧ W.cell? ⟨gt, 4, none⟩ = some (.bool false) ∧ W.rangeAt S 0 RV) := hide (fun W hU => by
   obtain ⟨_, _, q1, q2, q3, _, _, _, q4⟩ := unhide HU3 W ((HU4.out.then_below hv1).trans hU (fun b h => Or.inl h))
   exact ⟨q1, q2, q3, q4⟩)
  have hrg := (unhide HU5 w5 (Up.of_below (Below.refl _ _))).2.2.2
  have HOP5 := hide (unhide HOP w5 HBC5.out)
  clear HF4 hv0 hv1 hb5 hHeld hK1 hK2 hK3 HU3 HU4 HBC4 HOP
  go_wp2_with (refine wpList_load_mid rfl 38 (.tmp 5) rfl S 0 rfl RV _ hrg Tryz.underlying38 rfl hiR ?_)
  refine (unhide HOP5).mono ?_
  rintro e w6 ⟨rfl, hb6⟩
  have hc4 := (unhide HU5 w6 (Up.of_below hb6)).2.2.1
  have HB6 := hide hb6
  clear hb6 HOP5 hrg HU5
  go_wp2
  go_ret
  exact ⟨rfl, m, by have := HM5.out; omega, (HBC5.out.below HB6.out).dk, (hBU4.out.then_below HB45.out).then_below HB6.out⟩
set_option maxRecDepth 100000 in
set_option maxHeartbeats 16000000 in
/-- A reading that is begun. -/
theorem bread_yes {heap f0 k : Nat} (hC : Bc w gx ga ca n us ims p gl gm V D g gr B0) (hF : ∀ x, Ft p gl gm V x → GB ≤ x) (hGB : GB ≤ w.heap.size) (hh : hs.length = 32) (hhb : ∀ x ∈ hs, 0 ≤ x ∧ x ≤ 255) (h1 : 1 ≤ heap) (hz : secN le = (k : Int)) (hk1 : 1 ≤ k) (hf : heap ≤ f0 ∧ f0 < n) (hn2 : n ≤ 65536) (hnow : ∀ i, i < n → D.now i = ims.getD i []) (hw0 : 0 ≤ D.wt) (hw1 : D.wt ≤ 1000000) (hr0 : 0 ≤ D.rd) (hr1 : D.rd ≤ 1000000) :
 Calls Tryz.prog 14 #[.pointer (some ⟨gx, 0, none⟩), .int .i64 (heap : Int), .agg (refV hs (f0 : Int) le).toArray] w fun e w' => e = .returned (.bool true) ∧ ∃ j, j ≤ 5000 ∧ Dk w' p gl gm V (D.reads j) ∧ Up (fun b => b = p) w w' := by
 have hp : GB ≤ p := hF p (Or.inl rfl)
 have hs9 := secN_hi le
 obtain ⟨rd, hrd⟩ : ∃ rd, D.rd = rd := ⟨_, rfl⟩
 obtain ⟨wt, hwt⟩ : ∃ wt, D.wt = wt := ⟨_, rfl⟩
 obtain ⟨fl, hfl⟩ : ∃ fl, D.fl = fl := ⟨_, rfl⟩
 have hblk := hC.dk.blk
 rw [hrd, hwt, hfl] at hblk
 obtain ⟨S, hS⟩ : ∃ S, w.heap.size = S := ⟨_, rfl⟩
 obtain ⟨w1, hw1'⟩ : ∃ w1, w.alloc (.cells (refV hs (f0 : Int) le).toArray 38) = w1 := ⟨_, rfl⟩
 have hb1 : Below w.heap.size w w1 := by rw [← hw1']; exact (Below.refl _ _).alloc (Nat.le_refl _) _
 have hA1 : Arr w1 S 38 (refV hs (f0 : Int) le) := by rw [← hw1', ← hS]; exact Arr.new w _ _
 obtain ⟨RV, hRV⟩ : ∃ RV, refV hs (f0 : Int) le = RV := ⟨_, rfl⟩
 have hiR : (Tryz.prog.info? 38).map (·.size) = some RV.length := by rw [← hRV]; exact infoRef hh _ _
 rw [hRV] at hA1 hw1'
 have HST : Hid (∀ W, Below w1.heap.size w1 W → W.cell? ⟨gx, 0, none⟩ = some (.pointer (some ⟨p, 0, none⟩)) ∧ W.cell? ⟨gx, 2, none⟩ = some (.slice (some ⟨ga, 0, none⟩) n ca) ∧ W.rangeAt S 0 RV) := hide (fun W hW => by
  have hb := hb1.trans (hW.mono hb1.size)
  have hA := hC.arr.below hb
  exact ⟨arr_cell hA rfl, arr_cell hA rfl, arr_range (ds := []) (by rw [List.append_nil]; exact hA1.below hW)⟩)
 have HPC : Hid (∀ W, Below w.heap.size w W → W.cell? ⟨p, 2, none⟩ = some (.int .i64 rd) ∧ W.cell? ⟨p, 3, none⟩ = some (.int .i64 wt) ∧ W.cell? ⟨p, 4, none⟩ = some (.int .i64 fl)) := hide (fun W hW => by
  have hB := hblk.below hW
  exact ⟨arr_cell hB rfl, arr_cell hB rfl, arr_cell hB rfl⟩)
 have HAC : Hid (∀ W, Below w.heap.size w W → Calls Tryz.prog 25 #[.pointer (some ⟨p, 0, none⟩)] W fun e w' => e = .returned (.agg #[.int .i64 rd, .int .i64 wt, .int .i64 fl]) ∧ Below W.heap.size W w') := hide (fun W hW => by
  obtain ⟨q1, q2, q3⟩ := unhide HPC W hW
  exact acts_calls q1 q2 q3)
 have HWR : Hid (IntKind.i64.wrap (rd + 0) = rd ∧ IntKind.i64.wrap (wt + 0) = wt) := hide ⟨by rw [IntKind.wrap_i64]; omega, by rw [IntKind.wrap_i64]; omega⟩
 obtain ⟨N, hN⟩ : ∃ N : Nat → List Int, (fun i => ims.getD i []) = N := ⟨_, rfl⟩
 obtain ⟨BG, hBG⟩ : ∃ BG, begS heap n f0 = BG := ⟨_, rfl⟩
 have hBGo : outB le BG = false := by
  rw [← hBG]
  unfold outB
  rw [if_pos (show (begS heap n f0).br = 0 from rfl)]
  refine decide_eq_false fun h => ?_
  have h9 : ((0 : Nat) : Int) = secN le := h
  omega
 have hBGl : BG.ns.length = 0 := by rw [← hBG]; rfl
 obtain ⟨G, hG⟩ : ∃ G, goS N hs (f0 : Int) le heap n k BG = G := ⟨_, rfl⟩
 obtain ⟨g1, g2, g3⟩ := lkS_end (N := N) (hs := hs) (fi := (f0 : Int)) (fr := heap) (to_ := n) k hBGo (by rw [hBGl]; omega) hk1
 rw [hG, hBGl] at g2 g3
 rw [hG] at g1
 obtain ⟨bk, hbk⟩ : ∃ bk, G.br = bk := ⟨_, rfl⟩
 obtain ⟨f, hfe⟩ : ∃ f, outE G = f := ⟨_, rfl⟩
 obtain ⟨m, hm⟩ : ∃ m : Nat, G.ns.length = m := ⟨_, rfl⟩
 have hDN : goS D.now hs (f0 : Int) le heap n k BG = G := by
  rw [← hG]
  exact goS_same (fun i hi => by rw [hnow i hi, ← hN]) (fun i hi x hx => by obtain ⟨_, _, _, q, _⟩ := hC.ig.at (j := i) (by rw [hC.nl]; exact hi); rw [← hN] at hx; exact q.mem x hx) h1 (by omega) k (by rw [← hBG]; exact Pj.begin hf (by omega)) hBGo
 have HRD : Hid (∀ W, Below w.heap.size w W → Calls Tryz.prog 41 #[.slice (some ⟨ga, 0, none⟩) n ca, .int .i64 (heap : Int), .agg RV.toArray] W fun e w' => ∃ ta tn tc na nc, e = .returned (.agg (tV (.slice ta tn tc) bk f (.slice na m nc) true).toArray) ∧ Hid (Own8 w' W.heap.size (.slice ta tn tc) G.by_) ∧ Below W.heap.size W w') := hide (fun W hW => by
  have q := rread_yes (hC.below hW).ig hC.nl hh hhb hz hk1 h1 hf hn2
  rw [hN, hBG, hG, hRV, hbk, hfe] at q
  refine q.mono ?_
  rintro e w' ⟨ba, bn, bc, na, nn, nc, rfl, q1, q2, q3⟩
  obtain ⟨a2, c2, hv⟩ := q2.shape
  rw [iV_len, hm] at hv
  injection hv with e1 e2 e3
  subst e2
  exact ⟨ba, bn, bc, na, nc, rfl, hide q1, q3⟩)
 have HGT : Hid (∀ W, Below w.heap.size w W → Calls Tryz.prog 36 #[.pointer (some ⟨p, 0, none⟩), .int .i64 (heap : Int), .agg RV.toArray] W fun e w' => ∃ ra rn rc, e = .returned (.tuple #[.slice ra rn rc, .int .i64 bk, .int .i64 f]) ∧ Hid (IsB w' (.slice ra rn rc) G.by_ ∧ Dk w' p gl gm V (D.reads m) ∧ Up (fun b => b = p) W w')) := hide (fun W hW => by
  have q := get_good (hC.dk.below hW) (hC.tt.below hW) hF hh hhb le h1 (by rw [hC.dn]; omega) hz hk1 (by rw [hC.dn]; exact hf) hr0 (by omega)
  rw [hC.dn, hBG, hDN, hRV, hbk, hfe] at q
  refine q.mono ?_
  rintro e w' ⟨ra, rn, rc, n9, rfl, q1, q2, q3, q4⟩
  rw [hm] at q3
  subst q3
  exact ⟨ra, rn, rc, rfl, hide ⟨q1.isB, q2, q4⟩⟩)
 have HM5 : Hid (m ≤ 2185) := hide (by omega)
 have HOP : Hid (∀ W, Bc W gx ga ca n us ims p gl gm V (D.reads m) g gr B0 → Calls Tryz.prog 42 #[.pointer (some ⟨gx, 0, none⟩), .int .i64 (heap : Int), .agg RV.toArray] W fun e w' => ∃ gy B pr up ug B2 gq, e = .returned (.tuple #[.pointer (some ⟨gy, 0, none⟩), .bool true]) ∧ Hid (Lk W w' p gl gm V (D.reads m) gy B pr up ug B2 gq hs (f0 : Int) le heap n (lkS N hs (f0 : Int) le heap n 0 BG) (.slice none 0 0) (.slice none 0 0) (.slice none 0 0) (.slice none 0 0) (lkS N hs (f0 : Int) le heap n 0 BG).ns.length) ∧ Below W.heap.size W w') := hide (fun W hB => by
  have q := open_yes (le := le) hB hh hhb h1 (by omega) hf hw0 (by show D.wt ≤ _; omega) (by show 0 ≤ D.rd + (m : Int); omega) (by show D.rd + (m : Int) ≤ _; omega)
  rw [hRV] at q
  refine q.mono ?_
  rintro e w' ⟨gy, B, pr, up, ug, B2, gq, rfl, q1, q2, q3⟩
  refine ⟨gy, B, pr, up, ug, B2, gq, rfl, hide ?_, q3⟩
  have q4 := Lk.begin q1 q2 hB.dk q3 (Pj.begin hf (by omega))
  rw [hBG] at q4
  show Lk W w' p gl gm V (D.reads m) gy B pr up ug B2 gq hs (f0 : Int) le heap n BG _ _ _ _ BG.ns.length
  rw [hBGl]
  exact q4)
 have HLO : Hid (∀ W0 W gy B pr up ug B2 gq i nv bv nq pq, Bc W0 gx ga ca n us ims p gl gm V (D.reads m) g gr B0 → w.heap.size ≤ W0.heap.size → Lk W0 W p gl gm V (D.reads m) gy B pr up ug B2 gq hs (f0 : Int) le heap n (lkS N hs (f0 : Int) le heap n i BG) nv bv nq pq (lkS N hs (f0 : Int) le heap n i BG).ns.length → Calls Tryz.prog 43 #[.pointer (some ⟨gx, 0, none⟩), .pointer (some ⟨gy, 0, none⟩)] W fun e w' => e = .returned (.bool true) ∧ Hid (∃ nv' bv' nq' pq', Lk W0 w' p gl gm V (D.reads m) gy B pr up ug B2 gq hs (f0 : Int) le heap n (lkS N hs (f0 : Int) le heap n (i + 1) BG) nv' bv' nq' pq' (lkS N hs (f0 : Int) le heap n (i + 1) BG).ns.length)) := hide (fun W0 W gy B pr up ug B2 gq i nv bv nq pq hB hsz hL => by
  have q := look_any hB hF (Nat.le_trans hGB hsz) hL h1 hn2 (by omega) hnow hw0 (by show D.wt ≤ _; omega) (by show 0 ≤ D.rd + (m : Int); omega) (by show D.rd + (m : Int) ≤ _; omega)
  rw [hN, ← lkS_succ] at q
  exact q)
 have HEND : Hid (lkS N hs (f0 : Int) le heap n (m + 2) BG = G ∧ outB le G = true ∧ outE G = f ∧ G.ns.length = m) := hide ⟨g3 (m + 2) (by omega), g1, hfe, hm⟩
 have HPL : Hid (p < w.heap.size) := hide hC.dk.blk.lt
 have HRW : Hid (D.rd = rd ∧ D.wt = wt ∧ D.fl = fl ∧ IntKind.i64.wrap (rd + (m : Int)) = rd + (m : Int) ∧ IntKind.i64.wrap (wt + 0) = wt) := hide ⟨hrd, hwt, hfl, by have := HM5.out; rw [IntKind.wrap_i64]; omega, by rw [IntKind.wrap_i64]; omega⟩
 have HSU : Hid (∀ W0 W, Below w1.heap.size w1 W0 → Up (fun b => b = p) W0 W → W.cell? ⟨gx, 0, none⟩ = some (.pointer (some ⟨p, 0, none⟩)) ∧ W.cell? ⟨gx, 2, none⟩ = some (.slice (some ⟨ga, 0, none⟩) n ca) ∧ W.rangeAt S 0 RV) := hide (fun W0 W h0 hU => by
  have hb := hb1.trans (h0.mono hb1.size)
  have hA := hC.arr.below hb
  have hA2 := hA.up hU (fun e => absurd (hA.ty.one (e ▸ (hC.dk.below hb).blk.ty)) (by decide))
  have hR := (hA1.below h0).up hU (fun e => by have := HPL.out; omega)
  exact ⟨arr_cell hA2 rfl, arr_cell hA2 rfl, arr_range (ds := []) (by rw [List.append_nil]; exact hR)⟩)
 have HBC : Hid (∀ W0 W, Below w.heap.size w W0 → Up (fun b => b = p) W0 W → Dk W p gl gm V (D.reads m) → Bc W gx ga ca n us ims p gl gm V (D.reads m) g gr B0) := hide (fun W0 W h0 hU hD => (hC.below h0).later hp hU hD)
 rw [hRV]
 have HW1 := hide hw1'
 have HS := hide hS
 have HB1 := hide hb1
 clear hC hw0 hw1 hr0 hr1 hblk hrd hwt hfl hw1' hS hb1 hA1 hRV HPC HWR
 clear hh hf hp hbk hm hfe hF hGB hhb h1 hz hk1 hn2 hnow hs9 hN hBG hBGo hBGl hG g1 g2 g3 hDN
 go_enter Tryz.func14, Tryz.ntmps14
 go_wp2_with (rw [HW1.out, HS.out])
 have hz0 : Below w1.heap.size w1 w1.drew := (Below.refl _ _).drew
 go_cut [7] (fun a wc => ∃ gt ta tn tc na nc, a = .pointer (some ⟨gt, 0, none⟩) ∧ Hid (Arr wc gt 104 (tV (.slice ta tn tc) bk f (.slice na m nc) true) ∧ IsB wc (.slice ta tn tc) G.by_ ∧ (0 < (G.by_ : List Int).length → ∀ b, blkOf (.slice ta tn tc) = some b → w.heap.size ≤ b) ∧ w.heap.size ≤ gt ∧ Below w1.heap.size w1 wc))
 case first =>
  refine wp_region_held_drew (S := fun W => W.cell? ⟨gx, 0, none⟩ = some (.pointer (some ⟨p, 0, none⟩)) ∧ W.cell? ⟨gx, 2, none⟩ = some (.slice (some ⟨ga, 0, none⟩) n ca) ∧ W.rangeAt S 0 RV) (by kernel_rfl) (unhide HST _ hz0) (fun hHeld => ?_)
  refine wpAnyH_take (i := 0) (v := .pointer (some ⟨gx, 0, none⟩)) rfl (by kernel_rfl) (by kernel_rfl) (by kernel_rfl) (fun _ _ _ h => h) (Or.inl ⟨by rfl, fun w hSw => by obtain ⟨hS1, hS2, hS3⟩ := hSw; go_simp⟩) (by assumption) ?_
  simp only [fGa, fGz, Act.put, fSa, fSz, fSs]
  refine wpAnyH_take (i := 1) (v := .pointer (some ⟨gx, 0, none⟩)) rfl (by kernel_rfl) (by kernel_rfl) (by kernel_rfl) (fun _ _ _ h => h) (Or.inl ⟨by rfl, fun w hSw => by obtain ⟨hS1, hS2, hS3⟩ := hSw; go_simp⟩) (by assumption) ?_
  simp only [fGa, fGs, fGz, Act.put, fSa, fSz, fSs]
  refine wpAnyH_take (i := 2) (v := .pointer (some ⟨gx, 2, none⟩)) rfl (by kernel_rfl) (by kernel_rfl) (by kernel_rfl) (fun _ _ _ h => h) (Or.inl ⟨by rfl, fun w hSw => by obtain ⟨hS1, hS2, hS3⟩ := hSw; go_simp⟩) (by assumption) ?_
  simp only [fGa, fGs, fGz, Act.put, fSa, fSz, fSs]
  refine wpAnyH_take (i := 3) (v := .slice (some ⟨ga, 0, none⟩) n ca) rfl (by kernel_rfl) (by kernel_rfl) (by kernel_rfl) (fun _ _ _ h => h) (Or.inl ⟨by rfl, fun w hSw => by obtain ⟨hS1, hS2, hS3⟩ := hSw; go_simp⟩) (by assumption) ?_
  simp only [fGa, fGs, fGz, Act.put, fSa, fSz, fSs]
  refine wpAnyH_take (i := 4) (v := .int .i64 (heap : Int)) rfl (by kernel_rfl) (by kernel_rfl) (by kernel_rfl) (fun _ _ _ h => h) (Or.inl ⟨by rfl, fun w hSw => by obtain ⟨hS1, hS2, hS3⟩ := hSw; go_simp⟩) (by assumption) ?_
  simp only [fGa, fGs, fGz, Act.put, fSa, fSz, fSs]
  refine wpAnyH_take (i := 5) (v := .agg (RV).toArray) rfl (by kernel_rfl) (by kernel_rfl) (by kernel_rfl) (fun _ _ _ h => h) (yieldsIf_load_mid (by rfl) _ _ rfl _ _ rfl _ _ (fun w hSw => hSw.2.2) Tryz.underlying38 rfl hiR) (by assumption) ?_
  simp only [fGa, fGs, fGz, Act.put, fSa, fSz, fSs]
  refine wpAnyH_ready (rs := [6, 7]) (by kernel_rfl) (by simp) (AllReadyH.cons rfl (fun K hK => ?_) (AllReadyH.cons rfl (fun K hK => ?_) AllReadyH.nil))
  · refine step_call3C (by rfl) 41 rread_enter (.tmp 18) (.tmp 19) (.tmp 20) _ rfl rfl rfl rfl (unhide HRD _ (HB1.out.trans (hz0.mono HB1.out.size))) ?_
    rintro e w2 ⟨ta, tn, tc, na, nc, rfl, HO2, hb2⟩
    have hz1 : Below w1.heap.size w1 w2 := hz0.trans (hb2.mono hz0.size)
    refine ⟨_, rfl, ?_⟩
    refine hK.out _ _ (unhide HST _ hz1) (fun hJ1 => ?_)
    clear hK K
    simp only [fGa, fGs, fGz, Act.put, fSa, fSz, fSs]
    refine wpAnyH_ready (rs := [7]) (by kernel_rfl) (by simp) (AllReadyH.cons rfl (fun K hK => ?_) AllReadyH.nil)
    refine step_allocT (by rfl) rfl ?_
    refine hK.out _ _ (unhide HST _ (hz1.alloc hz1.size _)) (fun hJ2 => ?_)
    clear hK K
    simp only [fGa, fGs, fGz, Act.put, fSa, fSz, fSs]
    refine wpAnyH_ready (rs := [8]) (by kernel_rfl) (by simp) (AllReadyH.cons rfl (fun K hK => ?_) AllReadyH.nil)
    refine step_storeArr (cs' := tV (.slice ta tn tc) bk f (.slice na m nc) true) (by rfl) (.tmp 7) (.tmp 21) 104 rfl rfl rfl (Arr.new w2 _ _) (infoTold _ rfl) rfl (by unfold tV; simp [Value.oneCell']) ?_
    intro w3 hA3 hW3
    have hz3 : Below w1.heap.size w1 w3 := hW3.below _ _ (hz1.alloc hz1.size _) hz1.size
    have hz23 : Below w2.heap.size w2 w3 := hW3.below _ _ ((Below.refl _ _).alloc (Nat.le_refl _) _) (Nat.le_refl _)
    refine hK.out _ _ (unhide HST _ hz3) (fun hJ3 => ?_)
    clear hK K
    simp only [fGa, fGs, fGz, Act.put]
    refine wpAnyH_done (by kernel_rfl) ?_ _
    go_wp2
    go_meet
    exact ⟨w2.heap.size, ta, tn, tc, na, nc, rfl, hide ⟨hA3, (HO2.out.below hz23).isB, fun hp b hb => (by obtain ⟨g', c', hv, hB, _⟩ := HO2.out.head hp; rw [hv] at hb; have e1 : g' = b := Option.some.inj hb; have e2 : w1.heap.size ≤ g' := hB; have e3 := HB1.out.size; omega), (by have := hz1.size; have := HB1.out.size; omega), hz3⟩⟩
  · refine step_allocT (by rfl) rfl ?_
    have hza : Below w1.heap.size w1 (w1.drew.alloc (.cells (tV (.slice none 0 0) 0 0 (.slice none 0 0) false).toArray 104)) := hz0.alloc hz0.size _
    refine hK.out _ _ (unhide HST _ hza) (fun hJ1 => ?_)
    clear hK K
    simp only [fGa, fGs, fGz, Act.put, fSa, fSz, fSs]
    refine wpAnyH_ready (rs := [6]) (by kernel_rfl) (by simp) (AllReadyH.cons rfl (fun K hK => ?_) AllReadyH.nil)
    refine step_call3C (by rfl) 41 rread_enter (.tmp 18) (.tmp 19) (.tmp 20) _ rfl rfl rfl rfl (unhide HRD _ (HB1.out.trans (hza.mono HB1.out.size))) ?_
    rintro e w2 ⟨ta, tn, tc, na, nc, rfl, HO2, hb2⟩
    have hz1 : Below w1.heap.size w1 w2 := hza.trans (hb2.mono hza.size)
    refine ⟨_, rfl, ?_⟩
    refine hK.out _ _ (unhide HST _ hz1) (fun hJ2 => ?_)
    clear hK K
    simp only [fGa, fGs, fGz, Act.put, fSa, fSz, fSs]
    refine wpAnyH_ready (rs := [8]) (by kernel_rfl) (by simp) (AllReadyH.cons rfl (fun K hK => ?_) AllReadyH.nil)
    refine step_storeArr (cs' := tV (.slice ta tn tc) bk f (.slice na m nc) true) (by rfl) (.tmp 7) (.tmp 21) 104 rfl rfl rfl ((Arr.new w1.drew _ _).below hb2) (infoTold _ rfl) rfl (by unfold tV; simp [Value.oneCell']) ?_
    intro w3 hA3 hW3
    have hz3 : Below w1.heap.size w1 w3 := hW3.below _ _ hz1 (Nat.le_refl _)
    have hgt : w1.drew.heap.size < (w1.drew.alloc (.cells (tV (.slice none 0 0) 0 0 (.slice none 0 0) false).toArray 104)).heap.size := by simp [World.alloc]
    refine hK.out _ _ (unhide HST _ hz3) (fun hJ3 => ?_)
    clear hK K
    simp only [fGa, fGs, fGz, Act.put]
    refine wpAnyH_done (by kernel_rfl) ?_ _
    go_wp2
    go_meet
    exact ⟨w1.drew.heap.size, ta, tn, tc, na, nc, rfl, hide ⟨hA3, HO2.out.wroteB hW3 hgt, fun hp b hb => (by obtain ⟨g', c', hv, hB, _⟩ := HO2.out.head hp; rw [hv] at hb; have e1 : g' = b := Option.some.inj hb; have e2 := hza.size; have e3 := HB1.out.size; omega), HB1.out.size, hz3⟩⟩
 case rest =>
  obtain ⟨gt, ta, tn, tc, na, nc, rfl, HX⟩ := hcut
  clear hz0 HRD
  obtain ⟨w2, hw2⟩ : ∃ w2, wc = w2 := ⟨_, rfl⟩
  subst hw2
  obtain ⟨hAt, hIt, hlt, hgt, hz2⟩ := HX.out
  have hb02 : Below w.heap.size w wc := HB1.out.trans (hz2.mono HB1.out.size)
  have HAC2 := hide (unhide HAC wc hb02)
  have hx20 := (unhide HST wc hz2).1
  have HTW : Hid (∀ W0 W, Below wc.heap.size wc W0 → Up (fun b => b = p) W0 W → W.cell? ⟨gt, 0, none⟩ = some (.slice ta tn tc) ∧ W.cell? ⟨gt, 1, none⟩ = some (.int .i64 bk) ∧ W.cell? ⟨gt, 2, none⟩ = some (.int .i64 f) ∧ W.cell? ⟨gt, 3, none⟩ = some (.slice na m nc) ∧ W.cell? ⟨gt, 4, none⟩ = some (.bool true) ∧ IsB W (.slice ta tn tc) G.by_ ∧ W.cell? ⟨gx, 0, none⟩ = some (.pointer (some ⟨p, 0, none⟩)) ∧ W.cell? ⟨gx, 2, none⟩ = some (.slice (some ⟨ga, 0, none⟩) n ca) ∧ W.rangeAt S 0 RV) := hide (fun W0 W h0 hU => by
   have hA := (hAt.below h0).up hU (fun e => by have := HPL.out; omega)
   exact ⟨arr_cell hA rfl, arr_cell hA rfl, arr_cell hA rfl, arr_cell hA rfl, arr_cell hA rfl, (hIt.below h0).up0 hU (fun hp b hb e => by have := hlt hp b hb; have := HPL.out; omega), unhide HSU W0 W (hz2.trans (h0.mono hz2.size)) hU⟩)
  have HZ2 := hide hz2
  have HB02 := hide hb02
  clear HX hAt hIt hlt hgt hz2 HAC hb02
  go_wp2_with fail
  refine (unhide HAC2).mono ?_
  rintro e w2a ⟨rfl, hb2a⟩
  obtain ⟨gA, hgA⟩ : ∃ gA, w2a.heap.size = gA := ⟨_, rfl⟩
  have hA3 := Arr.new w2a [.int .i64 0, .int .i64 0, .int .i64 0] 80
  rw [hgA] at hA3
  have hiA : (Tryz.prog.info? 80).map (·.size) = some [Value.int .i64 rd, .int .i64 wt, .int .i64 fl].length := by kernel_rfl
  have h1A : ∀ u ∈ [Value.int .i64 rd, .int .i64 wt, .int .i64 fl], u.oneCell' = true := by simp [Value.oneCell']
  have HB3 : Hid (∀ w3, Wrote (w2a.alloc (.cells #[.int .i64 0, .int .i64 0, .int .i64 0] 80)) w3 gA → Below wc.heap.size wc w3 ∧ wc.heap.size ≤ gA) := hide (fun w3 hW3 => ⟨hW3.below _ _ (hb2a.alloc hb2a.size _) (by rw [← hgA]; exact hb2a.size), by rw [← hgA]; exact hb2a.size⟩)
  have HGA := hide hgA
  clear HAC2 hb2a hgA hx20
  go_wp2_with (first
   | (refine wpList_storeArr2 (cs' := [Value.int .i64 rd, .int .i64 wt, .int .i64 fl]) rfl (.tmp 8) (.tmp 26) 80 rfl rfl rfl hA3 hiA rfl h1A ?_; intro w3 hAc3 hWr3
      have HAC3 := hide hAc3
      have HBB3 := hide (unhide HB3 w3 hWr3)
      clear hAc3 hWr3 hA3)
   | rw [HGA.out])
  have hy0 : Below w3.heap.size w3 w3.drew := (Below.refl _ _).drew
  have hb23 : Below wc.heap.size wc w3 := HBB3.out.1
  have hb03 : Below w.heap.size w w3 := HB02.out.trans (hb23.mono HB02.out.size)
  have hz3 : Below w1.heap.size w1 w3 := HZ2.out.trans (hb23.mono HZ2.out.size)
  have HB03 := hide hb03
  have HS3 := hide (unhide HST w3.drew (hz3.trans (hy0.mono hz3.size)))
  have HGT3 := hide (unhide HGT w3.drew (hb03.trans (hy0.mono hb03.size)))
  have HU3 : Hid (∀ W, Up (fun b => b = p) w3.drew W → W.cell? ⟨gt, 0, none⟩ = some (.slice ta tn tc) ∧ W.cell? ⟨gt, 1, none⟩ = some (.int .i64 bk) ∧ W.cell? ⟨gt, 2, none⟩ = some (.int .i64 f) ∧ W.cell? ⟨gt, 3, none⟩ = some (.slice na m nc) ∧ W.cell? ⟨gt, 4, none⟩ = some (.bool true) ∧ IsB W (.slice ta tn tc) G.by_ ∧ W.cell? ⟨gx, 0, none⟩ = some (.pointer (some ⟨p, 0, none⟩)) ∧ W.cell? ⟨gx, 2, none⟩ = some (.slice (some ⟨ga, 0, none⟩) n ca) ∧ W.rangeAt S 0 RV) := hide (fun W hU => unhide HTW w3.drew W (hb23.trans (hy0.mono hb23.size)) hU)
  have HA3 : Hid (∀ W, Up (fun b => b = p) w3.drew W → W.rangeAt gA 0 [Value.int .i64 rd, .int .i64 wt, .int .i64 fl]) := hide (fun W hU => by
   have hA : Arr w3.drew gA 80 _ := HAC3.out
   have hA := hA.up hU (fun e => by have := HPL.out; have := HB02.out.size; have := HBB3.out.2; omega)
   exact arr_range (ds := []) (by rw [List.append_nil]; exact hA))
  have HBC3 : Hid (∀ W, Up (fun b => b = p) w3.drew W → Dk W p gl gm V (D.reads m) → Bc W gx ga ca n us ims p gl gm V (D.reads m) g gr B0) := hide (fun W hU hD => unhide HBC w3.drew W (hb03.trans (hy0.mono hb03.size)) hU hD)
  clear HGT HST HSU HTW hb03 hz3 HB3 hb23
  refine wp_region_held_drew (S := fun W => W.cell? ⟨gx, 0, none⟩ = some (.pointer (some ⟨p, 0, none⟩)) ∧ W.cell? ⟨gx, 2, none⟩ = some (.slice (some ⟨ga, 0, none⟩) n ca) ∧ W.rangeAt S 0 RV) (by kernel_rfl) (HS3.out) (fun hHeld => ?_)
  refine wpAnyH_take (i := 0) (v := .pointer (some ⟨gx, 0, none⟩)) rfl (by kernel_rfl) (by kernel_rfl) (by kernel_rfl) (fun _ _ _ h => h) (Or.inl ⟨by rfl, fun w hSw => by obtain ⟨hS1, hS2, hS3⟩ := hSw; go_simp⟩) (by assumption) ?_
  simp only [fGa, fGz, Act.put, fSa, fSz, fSs]
  refine wpAnyH_take (i := 1) (v := .pointer (some ⟨gx, 0, none⟩)) rfl (by kernel_rfl) (by kernel_rfl) (by kernel_rfl) (fun _ _ _ h => h) (Or.inl ⟨by rfl, fun w hSw => by obtain ⟨hS1, hS2, hS3⟩ := hSw; go_simp⟩) (by assumption) ?_
  simp only [fGa, fGs, fGz, Act.put, fSa, fSz, fSs]
  refine wpAnyH_take (i := 2) (v := .pointer (some ⟨gx, 0, none⟩)) rfl (by kernel_rfl) (by kernel_rfl) (by kernel_rfl) (fun _ _ _ h => h) (Or.inl ⟨by rfl, fun w hSw => by obtain ⟨hS1, hS2, hS3⟩ := hSw; go_simp⟩) (by assumption) ?_
  simp only [fGa, fGs, fGz, Act.put, fSa, fSz, fSs]
  refine wpAnyH_take (i := 3) (v := .pointer (some ⟨p, 0, none⟩)) rfl (by kernel_rfl) (by kernel_rfl) (by kernel_rfl) (fun _ _ _ h => h) (Or.inl ⟨by rfl, fun w hSw => by obtain ⟨hS1, hS2, hS3⟩ := hSw; go_simp⟩) (by assumption) ?_
  simp only [fGa, fGs, fGz, Act.put, fSa, fSz, fSs]
  refine wpAnyH_take (i := 4) (v := .int .i64 (heap : Int)) rfl (by kernel_rfl) (by kernel_rfl) (by kernel_rfl) (fun _ _ _ h => h) (Or.inl ⟨by rfl, fun w hSw => by obtain ⟨hS1, hS2, hS3⟩ := hSw; go_simp⟩) (by assumption) ?_
  simp only [fGa, fGs, fGz, Act.put, fSa, fSz, fSs]
  refine wpAnyH_take (i := 5) (v := .agg (RV).toArray) rfl (by kernel_rfl) (by kernel_rfl) (by kernel_rfl) (fun _ _ _ h => h) (yieldsIf_load_mid (by rfl) _ _ rfl _ _ rfl _ _ (fun w hSw => hSw.2.2) Tryz.underlying38 rfl hiR) (by assumption) ?_
  simp only [fGa, fGs, fGz, Act.put, fSa, fSz, fSs]
  refine wpAnyH_ready (rs := [6]) (by kernel_rfl) (by simp) (AllReadyH.cons rfl (fun K hK => ?_) AllReadyH.nil)
  refine step_call3C (by rfl) 36 get_enter6 (.tmp 31) (.tmp 32) (.tmp 33) _ rfl rfl rfl rfl (unhide HGT3) ?_
  rintro e w4 ⟨ra, rn, rc, rfl, HG4⟩
  refine ⟨_, rfl, ?_⟩
  refine hK.out _ _ ((unhide HU3 _ HG4.out.2.2).2.2.2.2.2.2) (fun hJ2 => ?_)
  clear hK K
  simp only [fGa, fGs, fGz, Act.put, fSa, fSz, fSs]
  refine wpAnyH_take (i := 7) (v := .tuple #[.slice ra rn rc, .int .i64 bk, .int .i64 f]) rfl (by kernel_rfl) (by kernel_rfl) (by kernel_rfl) (fun _ _ _ h => h) (Or.inl ⟨by rfl, fun w hSw => by obtain ⟨hS1, hS2, hS3⟩ := hSw; go_simp⟩) (by assumption) ?_
  simp only [fGa, fGs, fGz, Act.put, fSa, fSz, fSs]
  refine wpAnyH_take (i := 8) (v := .slice (ra) rn rc) rfl (by kernel_rfl) (by kernel_rfl) (by kernel_rfl) (fun _ _ _ h => h) (Or.inl ⟨by rfl, fun w hSw => by obtain ⟨hS1, hS2, hS3⟩ := hSw; go_simp⟩) (by assumption) ?_
  simp only [fGa, fGs, fGz, Act.put, fSa, fSz, fSs]
  refine wpAnyH_take (i := 9) (v := .int .i64 bk) rfl (by kernel_rfl) (by kernel_rfl) (by kernel_rfl) (fun _ _ _ h => h) (Or.inl ⟨by rfl, fun w hSw => by obtain ⟨hS1, hS2, hS3⟩ := hSw; go_simp⟩) (by assumption) ?_
  simp only [fGa, fGs, fGz, Act.put, fSa, fSz, fSs]
  refine wpAnyH_take (i := 10) (v := .int .i64 f) rfl (by kernel_rfl) (by kernel_rfl) (by kernel_rfl) (fun _ _ _ h => h) (Or.inl ⟨by rfl, fun w hSw => by obtain ⟨hS1, hS2, hS3⟩ := hSw; go_simp⟩) (by assumption) ?_
  simp only [fGa, fGs, fGz, Act.put, fSa, fSz, fSs]
  refine wpAnyH_take (i := 11) (v := .slice (ra) rn rc) rfl (by kernel_rfl) (by kernel_rfl) (by kernel_rfl) (fun _ _ _ h => h) (Or.inl ⟨by rfl, fun w hSw => by obtain ⟨hS1, hS2, hS3⟩ := hSw; go_simp⟩) (by assumption) ?_
  simp only [fGa, fGs, fGz, Act.put, fSa, fSz, fSs]
  refine wpAnyH_take (i := 12) (v := .int .i64 bk) rfl (by kernel_rfl) (by kernel_rfl) (by kernel_rfl) (fun _ _ _ h => h) (Or.inl ⟨by rfl, fun w hSw => by obtain ⟨hS1, hS2, hS3⟩ := hSw; go_simp⟩) (by assumption) ?_
  simp only [fGa, fGs, fGz, Act.put, fSa, fSz, fSs]
  refine wpAnyH_take (i := 13) (v := .int .i64 f) rfl (by kernel_rfl) (by kernel_rfl) (by kernel_rfl) (fun _ _ _ h => h) (Or.inl ⟨by rfl, fun w hSw => by obtain ⟨hS1, hS2, hS3⟩ := hSw; go_simp⟩) (by assumption) ?_
  simp only [fGa, fGs, fGz, Act.put, fSa, fSz, fSs]
  refine wpAnyH_done (by kernel_rfl) ?_ _
  obtain ⟨hIr, hD4, hU4⟩ := HG4.out
  have hBC4 := unhide HBC3 w4 hU4 hD4
  have hBU4 : Hid (Up (fun b => b = p) w w4) := hide ((Up.of_below (HB03.out.trans (hy0.mono HB03.out.size))).trans hU4 (fun b h => Or.inl h))
  have HF4 : Hid (∀ W, Below w4.heap.size w4 W → (W.cell? ⟨gt, 0, none⟩ = some (.slice ta tn tc) ∧ W.cell? ⟨gt, 1, none⟩ = some (.int .i64 bk) ∧ W.cell? ⟨gt, 2, none⟩ = some (.int .i64 f) ∧ W.cell? ⟨gt, 3, none⟩ = some (.slice na m nc) ∧ W.rangeAt gA 0 [Value.int .i64 rd, .int .i64 wt, .int .i64 fl]) ∧ IsB W (.slice ta tn tc) G.by_ ∧ IsB W (.slice ra rn rc) G.by_ ∧ Calls Tryz.prog 28 #[.pointer (some ⟨gx, 0, none⟩), .agg [Value.int .i64 rd, .int .i64 wt, .int .i64 fl].toArray, .int .i64 (m : Int), .int .i64 0] W (fun e w' => e = .returned (.bool true) ∧ Below W.heap.size W w')) := hide (fun W hW => by
   have hUW : Up (fun b => b = p) w3.drew W := hU4.then_below hW
   obtain ⟨c0, c1, c2, c3, _, c5, c6, _⟩ := unhide HU3 W hUW
   have hK := (hBC4.below hW).dk.blk
   have hb2 : Arr W p _ _ := hK
   have e2 : W.cell? ⟨p, 2, none⟩ = some (.int .i64 (rd + (m : Int))) := by rw [arr_cell hK rfl, ← HRW.out.1]; rfl
   have e3 : W.cell? ⟨p, 3, none⟩ = some (.int .i64 wt) := by rw [arr_cell hK rfl, ← HRW.out.2.1]; rfl
   have e4 : W.cell? ⟨p, 4, none⟩ = some (.int .i64 fl) := by rw [arr_cell hK rfl, ← HRW.out.2.2.1]; rfl
   exact ⟨⟨c0, c1, c2, c3, unhide HA3 W hUW⟩, c5, hIr.below hW, bacts_calls c6 e2 e3 e4 HRW.out.2.2.2.1 HRW.out.2.2.2.2⟩)
  have hv0 : Below w4.heap.size w4 w4.drew := (Below.refl _ _).drew
  have HBC4 := hide hBC4
  have HU4 := hide hU4
  have hbf : (f != f) = false := by simp
  have hbb : (bk != bk) = false := by simp
  have hff : (f == f) = true := by simp
  clear hIr hD4 hU4 hBC4 HBC3 HS3 HGT3 HG4 hHeld hJ2 HA3 HRW
  go_wp2_with fail
  refine wp_region_held_drew (S := fun W => W.cell? ⟨gt, 0, none⟩ = some (.slice ta tn tc) ∧ W.cell? ⟨gt, 1, none⟩ = some (.int .i64 bk) ∧ W.cell? ⟨gt, 2, none⟩ = some (.int .i64 f) ∧ W.cell? ⟨gt, 3, none⟩ = some (.slice na m nc) ∧ W.rangeAt gA 0 [Value.int .i64 rd, .int .i64 wt, .int .i64 fl]) (by kernel_rfl) ((unhide HF4 _ hv0).1) (fun hHeld => ?_)
  refine wpAnyH_take (i := 0) (v := .int .i64 f) rfl (by kernel_rfl) (by kernel_rfl) (by kernel_rfl) (fun _ _ _ h => h) (Or.inl ⟨by rfl, fun w hSw => by obtain ⟨hS1, hS2, hS3, hS4, hS5⟩ := hSw; go_simp⟩) (by assumption) ?_
  simp only [fGa, fGz, Act.put, fSa, fSz, fSs]
  refine wpAnyH_take (i := 2) (v := .pointer (some ⟨gt, 2, none⟩)) rfl (by kernel_rfl) (by kernel_rfl) (by kernel_rfl) (fun _ _ _ h => h) (Or.inl ⟨by rfl, fun w hSw => by obtain ⟨hS1, hS2, hS3, hS4, hS5⟩ := hSw; go_simp⟩) (by assumption) ?_
  simp only [fGa, fGs, fGz, Act.put, fSa, fSz, fSs]
  refine wpAnyH_take (i := 3) (v := .int .i64 f) rfl (by kernel_rfl) (by kernel_rfl) (by kernel_rfl) (fun _ _ _ h => h) (Or.inl ⟨by rfl, fun w hSw => by obtain ⟨hS1, hS2, hS3, hS4, hS5⟩ := hSw; go_simp⟩) (by assumption) ?_
  simp only [fGa, fGs, fGz, Act.put, fSa, fSz, fSs]
  refine wpAnyH_ready (rs := [1]) (by kernel_rfl) (by simp) (AllReadyH.cons rfl (fun K hK => ?_) AllReadyH.nil)
  refine step_call1C (by rfl) 19 num6_enter (.tmp 38) _ rfl rfl (num6_calls f _) ?_
  rintro e wn ⟨rfl, hwn⟩
  obtain rfl := hwn.symm
  clear hwn
  refine ⟨_, rfl, ?_⟩
  refine hK.out _ _ ((unhide HF4 _ hv0).1) (fun hK1 => ?_)
  clear hK K
  simp only [fGa, fGs, fGz, Act.put, fSa, fSz, fSs]
  refine wpAnyH_take (i := 4) (v := .bool false) rfl (by kernel_rfl) (by kernel_rfl) (by kernel_rfl) (fun _ _ _ h => h) (Or.inl ⟨by rfl, fun w hSw => by obtain ⟨hS1, hS2, hS3, hS4, hS5⟩ := hSw; go_simp⟩) (by assumption) ?_
  simp only [fGa, fGs, fGz, Act.put, fSa, fSz, fSs]
  refine wpAnyH_take (i := 5) (v := .bool false) rfl (by kernel_rfl) (by kernel_rfl) (by kernel_rfl) (fun _ _ _ h => h) (Or.inl ⟨by rfl, fun w hSw => by obtain ⟨hS1, hS2, hS3, hS4, hS5⟩ := hSw; go_simp⟩) (by assumption) ?_
  simp only [fGa, fGs, fGz, Act.put, fSa, fSz, fSs]
  refine wpAnyH_take (i := 6) (v := .int .i64 bk) rfl (by kernel_rfl) (by kernel_rfl) (by kernel_rfl) (fun _ _ _ h => h) (Or.inl ⟨by rfl, fun w hSw => by obtain ⟨hS1, hS2, hS3, hS4, hS5⟩ := hSw; go_simp⟩) (by assumption) ?_
  simp only [fGa, fGs, fGz, Act.put, fSa, fSz, fSs]
  refine wpAnyH_take (i := 7) (v := .pointer (some ⟨gt, 1, none⟩)) rfl (by kernel_rfl) (by kernel_rfl) (by kernel_rfl) (fun _ _ _ h => h) (Or.inl ⟨by rfl, fun w hSw => by obtain ⟨hS1, hS2, hS3, hS4, hS5⟩ := hSw; go_simp⟩) (by assumption) ?_
  simp only [fGa, fGs, fGz, Act.put, fSa, fSz, fSs]
  refine wpAnyH_take (i := 8) (v := .int .i64 bk) rfl (by kernel_rfl) (by kernel_rfl) (by kernel_rfl) (fun _ _ _ h => h) (Or.inl ⟨by rfl, fun w hSw => by obtain ⟨hS1, hS2, hS3, hS4, hS5⟩ := hSw; go_simp⟩) (by assumption) ?_
  simp only [fGa, fGs, fGz, Act.put, fSa, fSz, fSs]
  refine wpAnyH_take (i := 9) (v := .bool false) rfl (by kernel_rfl) (by kernel_rfl) (by kernel_rfl) (fun _ _ _ h => h) (Or.inl ⟨by rfl, fun w hSw => by obtain ⟨hS1, hS2, hS3, hS4, hS5⟩ := hSw; go_simp⟩) (by assumption) ?_
  simp only [fGa, fGs, fGz, Act.put, fSa, fSz, fSs]
  refine wpAnyH_take (i := 10) (v := .bool false) rfl (by kernel_rfl) (by kernel_rfl) (by kernel_rfl) (fun _ _ _ h => h) (Or.inl ⟨by rfl, fun w hSw => by obtain ⟨hS1, hS2, hS3, hS4, hS5⟩ := hSw; go_simp⟩) (by assumption) ?_
  simp only [fGa, fGs, fGz, Act.put, fSa, fSz, fSs]
  refine wpAnyH_take (i := 11) (v := .bool false) rfl (by kernel_rfl) (by kernel_rfl) (by kernel_rfl) (fun _ _ _ h => h) (Or.inl ⟨by rfl, fun w hSw => by obtain ⟨hS1, hS2, hS3, hS4, hS5⟩ := hSw; go_simp⟩) (by assumption) ?_
  simp only [fGa, fGs, fGz, Act.put, fSa, fSz, fSs]
  refine wpAnyH_take (i := 12) (v := .slice (ra) rn rc) rfl (by kernel_rfl) (by kernel_rfl) (by kernel_rfl) (fun _ _ _ h => h) (Or.inl ⟨by rfl, fun w hSw => by obtain ⟨hS1, hS2, hS3, hS4, hS5⟩ := hSw; go_simp⟩) (by assumption) ?_
  simp only [fGa, fGs, fGz, Act.put, fSa, fSz, fSs]
  refine wpAnyH_take (i := 13) (v := .pointer (some ⟨gt, 0, none⟩)) rfl (by kernel_rfl) (by kernel_rfl) (by kernel_rfl) (fun _ _ _ h => h) (Or.inl ⟨by rfl, fun w hSw => by obtain ⟨hS1, hS2, hS3, hS4, hS5⟩ := hSw; go_simp⟩) (by assumption) ?_
  simp only [fGa, fGs, fGz, Act.put, fSa, fSz, fSs]
  refine wpAnyH_take (i := 14) (v := .slice (ta) tn tc) rfl (by kernel_rfl) (by kernel_rfl) (by kernel_rfl) (fun _ _ _ h => h) (Or.inl ⟨by rfl, fun w hSw => by obtain ⟨hS1, hS2, hS3, hS4, hS5⟩ := hSw; go_simp⟩) (by assumption) ?_
  simp only [fGa, fGs, fGz, Act.put, fSa, fSz, fSs]
  refine wpAnyH_ready (rs := [15]) (by kernel_rfl) (by simp) (AllReadyH.cons rfl (fun K hK => ?_) AllReadyH.nil)
  refine step_call2GC (by rfl) 27 same6_enterB (.tmp 50) (.tmp 52) _ rfl rfl rfl ((same6_calls (unhide HF4 _ hv0).2.2.1 (unhide HF4 _ hv0).2.1).mono (fun e w' h => (⟨by rw [h.1, decide_eq_true rfl], h.2⟩ : e = .returned (.bool true) ∧ w' = w4.drew))) ?_
  rintro e wn ⟨rfl, hwn⟩
  obtain rfl := hwn.symm
  clear hwn
  refine ⟨_, rfl, ?_⟩
  refine hK.out _ _ ((unhide HF4 _ hv0).1) (fun hK2 => ?_)
  clear hK K
  simp only [fGa, fGs, fGz, Act.put, fSa, fSz, fSs]
  refine wpAnyH_take (i := 16) (v := .bool false) rfl (by kernel_rfl) (by kernel_rfl) (by kernel_rfl) (fun _ _ _ h => h) (Or.inl ⟨by rfl, fun w hSw => by obtain ⟨hS1, hS2, hS3, hS4, hS5⟩ := hSw; go_simp⟩) (by assumption) ?_
  simp only [fGa, fGs, fGz, Act.put, fSa, fSz, fSs]
  refine wpAnyH_take (i := 17) (v := .bool false) rfl (by kernel_rfl) (by kernel_rfl) (by kernel_rfl) (fun _ _ _ h => h) (Or.inl ⟨by rfl, fun w hSw => by obtain ⟨hS1, hS2, hS3, hS4, hS5⟩ := hSw; go_simp⟩) (by assumption) ?_
  simp only [fGa, fGs, fGz, Act.put, fSa, fSz, fSs]
  refine wpAnyH_take (i := 18) (v := .bool false) rfl (by kernel_rfl) (by kernel_rfl) (by kernel_rfl) (fun _ _ _ h => h) (Or.inl ⟨by rfl, fun w hSw => by obtain ⟨hS1, hS2, hS3, hS4, hS5⟩ := hSw; go_simp⟩) (by assumption) ?_
  simp only [fGa, fGs, fGz, Act.put, fSa, fSz, fSs]
  refine wpAnyH_take (i := 19) (v := .pointer (some ⟨gx, 0, none⟩)) rfl (by kernel_rfl) (by kernel_rfl) (by kernel_rfl) (fun _ _ _ h => h) (Or.inl ⟨by rfl, fun w hSw => by obtain ⟨hS1, hS2, hS3, hS4, hS5⟩ := hSw; go_simp⟩) (by assumption) ?_
  simp only [fGa, fGs, fGz, Act.put, fSa, fSz, fSs]
  refine wpAnyH_take (i := 20) (v := .agg ([Value.int .i64 rd, .int .i64 wt, .int .i64 fl]).toArray) rfl (by kernel_rfl) (by kernel_rfl) (by kernel_rfl) (fun _ _ _ h => h) (yieldsIf_load_mid (by rfl) _ _ rfl _ _ rfl _ _ (fun w hSw => hSw.2.2.2.2) Tryz.underlying80 rfl hiA) (by assumption) ?_
  simp only [fGa, fGs, fGz, Act.put, fSa, fSz, fSs]
  refine wpAnyH_take (i := 21) (v := .pointer (some ⟨gt, 3, none⟩)) rfl (by kernel_rfl) (by kernel_rfl) (by kernel_rfl) (fun _ _ _ h => h) (Or.inl ⟨by rfl, fun w hSw => by obtain ⟨hS1, hS2, hS3, hS4, hS5⟩ := hSw; go_simp⟩) (by assumption) ?_
  simp only [fGa, fGs, fGz, Act.put, fSa, fSz, fSs]
  refine wpAnyH_take (i := 22) (v := .slice (na) m nc) rfl (by kernel_rfl) (by kernel_rfl) (by kernel_rfl) (fun _ _ _ h => h) (Or.inl ⟨by rfl, fun w hSw => by obtain ⟨hS1, hS2, hS3, hS4, hS5⟩ := hSw; go_simp⟩) (by assumption) ?_
  simp only [fGa, fGs, fGz, Act.put, fSa, fSz, fSs]
  refine wpAnyH_take (i := 23) (v := .int .i64 (m : Int)) rfl (by kernel_rfl) (by kernel_rfl) (by kernel_rfl) (fun _ _ _ h => h) (Or.inl ⟨by rfl, fun w hSw => by obtain ⟨hS1, hS2, hS3, hS4, hS5⟩ := hSw; go_simp⟩) (by assumption) ?_
  simp only [fGa, fGs, fGz, Act.put, fSa, fSz, fSs]
  refine wpAnyH_ready (rs := [24]) (by kernel_rfl) (by simp) (AllReadyH.cons rfl (fun K hK => ?_) AllReadyH.nil)
  refine step_call4GC (by rfl) 28 bacts_enter (.tmp 57) (.tmp 58) (.tmp 61) (.const (.int .i64 0)) _ rfl rfl rfl rfl rfl (unhide HF4 _ hv0).2.2.2 ?_
  rintro e w5 ⟨rfl, hb5⟩
  have hv1 : Below w4.heap.size w4 w5 := hv0.trans (hb5.mono hv0.size)
  refine ⟨_, rfl, ?_⟩
  refine hK.out _ _ ((unhide HF4 _ hv1).1) (fun hK3 => ?_)
  clear hK K
  simp only [fGa, fGs, fGz, Act.put, fSa, fSz, fSs]
  refine wpAnyH_take (i := 25) (v := .bool false) rfl (by kernel_rfl) (by kernel_rfl) (by kernel_rfl) (fun _ _ _ h => h) (Or.inl ⟨by rfl, fun w hSw => by obtain ⟨hS1, hS2, hS3, hS4, hS5⟩ := hSw; go_simp⟩) (by assumption) ?_
  simp only [fGa, fGs, fGz, Act.put, fSa, fSz, fSs]
  refine wpAnyH_take (i := 26) (v := .bool false) rfl (by kernel_rfl) (by kernel_rfl) (by kernel_rfl) (fun _ _ _ h => h) (Or.inl ⟨by rfl, fun w hSw => by obtain ⟨hS1, hS2, hS3, hS4, hS5⟩ := hSw; go_simp⟩) (by assumption) ?_
  simp only [fGa, fGs, fGz, Act.put, fSa, fSz, fSs]
  refine wpAnyH_done (by kernel_rfl) ?_ _
  have HB45 := hide hv1
  have HBC5 := hide (HBC4.out.below hv1)
  have HU5 : Hid (∀ W, Up (fun b => b = p) w5 W → W.cell? ⟨gt, 2, none⟩ = some (.int .i64 f) ∧ W.cell? ⟨gt, 3, none⟩ = some (.slice na m nc) ∧ W.cell? ⟨gt, 4, none⟩ = some (.bool true) ∧ W.rangeAt S 0 RV) := hide (fun W hU => by
   obtain ⟨_, _, q1, q2, q3, _, _, _, q4⟩ := unhide HU3 W ((HU4.out.then_below hv1).trans hU (fun b h => Or.inl h))
   exact ⟨q1, q2, q3, q4⟩)
  have hrg := (unhide HU5 w5 (Up.of_below (Below.refl _ _))).2.2.2
  have HOP5 := hide (unhide HOP w5 HBC5.out)
  clear HF4 hv0 hv1 hb5 hHeld hK1 hK2 hK3 HU3 HU4 HBC4 HOP
  go_wp2_with (refine wpList_load_mid rfl 38 (.tmp 5) rfl S 0 rfl RV _ hrg Tryz.underlying38 rfl hiR ?_)
  refine (unhide HOP5).mono ?_
  rintro e w6 ⟨gy, B, pr, up, ug, B2, gq, rfl, HLK, hb6⟩
  have HU6 := HU5
  have HW0 : Hid (w.heap.size ≤ w5.heap.size) := hide (hBU4.out.then_below HB45.out).size
  clear hb6 HOP5 hrg HU5
  go_wp2_with fail
  go_loopw [14] (fun iv W => ∃ (i : Nat), i ≤ m + 2 ∧ iv = .int .i64 (i : Int) ∧ Hid (∃ nv bv nq pq, Lk w5 W p gl gm V (D.reads m) gy B pr up ug B2 gq hs (f0 : Int) le heap n (lkS N hs (f0 : Int) le heap n i BG) nv bv nq pq (lkS N hs (f0 : Int) le heap n i BG).ns.length)) (fun iv _ => m + 2 - (intOf iv).toNat)
  case atStart => exact ⟨0, by omega, rfl, hide ⟨_, _, _, _, HLK.out⟩⟩
  case round =>
   clear HLK
   obtain ⟨i, hi, rfl, HI⟩ := hrel
   have hm5 : m ≤ 2185 := HM5.out
   have hc3 : wr.cell? ⟨gt, 3, none⟩ = some (.slice na m nc) := by
    obtain ⟨_, _, _, _, hL⟩ := HI.out
    exact (unhide HU6 wr hL.u0).2.1
   have em : IntKind.i64.wrap ((m : Int) + 2) = (m : Int) + 2 := by rw [IntKind.wrap_i64]; have := HM5.out; omega
   by_cases hlt : i < m + 2
   · have hltI : (i : Int) < (m : Int) + 2 := by omega
     have HSTP : Hid (Calls Tryz.prog 43 #[.pointer (some ⟨gx, 0, none⟩), .pointer (some ⟨gy, 0, none⟩)] wr fun e w' => e = .returned (.bool true) ∧ Hid (∃ nv' bv' nq' pq', Lk w5 w' p gl gm V (D.reads m) gy B pr up ug B2 gq hs (f0 : Int) le heap n (lkS N hs (f0 : Int) le heap n (i + 1) BG) nv' bv' nq' pq' (lkS N hs (f0 : Int) le heap n (i + 1) BG).ns.length)) := hide (by
      obtain ⟨nv, bv, nq, pq, hL⟩ := HI.out
      exact unhide HLO w5 wr gy B pr up ug B2 gq i nv bv nq pq HBC5.out HW0.out hL)
     clear HI
     go_wp2_with fail
     refine (unhide HSTP).mono ?_
     rintro e w7 ⟨rfl, HQ7⟩
     clear HSTP hc3
     go_wp2
     go_roundw
     case rel => exact ⟨i + 1, by omega, by have := HM5.out; go_num, HQ7⟩
     case measure => have := HM5.out; simp [intOf]; omega
   · have hltI : ¬ (i : Int) < (m : Int) + 2 := by omega
     have ei : i = m + 2 := by omega
     obtain ⟨nv, bv, nq, pq, hL⟩ := HI.out
     rw [ei] at hL
     obtain ⟨h1, h2, h3, h4⟩ := HEND.out
     rw [h1] at hL
     obtain ⟨c2, _, c4, _⟩ := unhide HU6 wr hL.u0
     have cy1 : wr.cell? ⟨gy, 1, none⟩ = some (.pointer (some ⟨gq, 0, none⟩)) := arr_cell hL.ey.arr rfl
     obtain ⟨_, _, q, _⟩ := hL.ey.gs.ex
     obtain ⟨_, _, _, _, _, c39, c40, _⟩ := q.cells
     rw [h2] at c39
     rw [h3] at c40
     have HFI : Hid (Dk wr p gl gm V (D.reads (m + m)) ∧ Up (fun b => b = p) w wr) := hide ⟨by have := hL.dk; rw [h4, reads_reads] at this; exact this, (hBU4.out.then_below HB45.out).trans hL.u0 (fun b h => Or.inl h)⟩
     clear hL HI q h1 h2 h3 h4 ei HLO HEND HU6 HBC5
     go_wp2_with fail
     go_quiet (fail)
     go_wp2
     go_ret
     exact ⟨rfl, m + m, by have := HM5.out; omega, HFI.out.1.below (drewn_bJ _ _ _), HFI.out.2.then_below (drewn_bJ _ _ _)⟩
end
end Go.Proofs.YtdalbalphagmfaaGreatDoor
