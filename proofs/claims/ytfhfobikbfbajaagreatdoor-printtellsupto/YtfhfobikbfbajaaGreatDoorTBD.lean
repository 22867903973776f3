/- The program's sayable. -/
import Derived.Test.YtfhfobikbfbajaaGreatDoorTBC
import Derived.Test.YtfhfobikbfbajaaGreatDoorTAX
namespace Go.Proofs.YtfhfobikbfbajaaGreatDoor
open Go.RowKit Go.Maps

/-- No text of a task's is too long for a walk. -/
def tkS (t : Tsk) : Prop := t.name.size ≤ 2000000 ∧ (∀ s ∈ t.ins, s.size ≤ 2000000) ∧ (∀ o ∈ t.outs, o.1.size ≤ 2000000 ∧ smT o.2)
theorem elemTs : Tryz.prog.underlying 38 = some (.slice (Tryz.prog.elem 38)) := by kernel_rfl
theorem sizeTs (W : World) : (sizeOf (Tryz.prog.elem 38)).run Tryz.prog W = .ok 4 W := by kernel_rfl
theorem slice_hT (b o n c m : Nat) (hm : m ≤ c) (_ : c ≠ 0) (W : World) : (Instr.sliceAt 38 (.slice (some ⟨b, o, none⟩) n c) none (some (.int .i64 (m : Int))) none).run Tryz.prog W = .ok (.slice (some ⟨b, o, none⟩) m c) W := by
  rw [run_sliceAt_slice W _ _ _ _ _ elemTs, run_slice_h W _ (some ⟨b, o, none⟩) n c elemTs .i64 m (by omega) (by omega), sizeTs]
  simp [Result.andThen, sliced]
  intro _
  rfl
theorem ma_new (w : World) : Ma w (w.alloc (.cells #[.slice none 0 0] 74)) w.heap.size (.slice none 0 0) [] :=
  ⟨Arr.new w [.slice none 0 0] 74, ⟨[], ⟨rfl, Or.inl ⟨rfl, rfl⟩⟩, Apt.nil, by simp, by simp, rfl⟩, jalloc_below w _, Nat.le_refl _⟩
theorem tk_all {b c d e : Bool} {p1 p2 q r1 r2 : Prop} [Decidable p1] [Decidable p2] [Decidable q] [Decidable r1] [Decidable r2] : (!b && (c && (decide (p1 ∧ p2 ∧ q ∧ r1 ∧ r2) && (d && e)))) = (c && (!b && ((decide p1 && decide p2) && ((decide q && d) && (decide (r1 ∧ r2) && e))))) := by
  by_cases h1 : p1 <;> by_cases h2 : p2 <;> by_cases hq : q <;> by_cases h3 : r1 <;> by_cases h4 : r2 <;> cases b <;> cases c <;> cases d <;> cases e <;> simp [h1, h2, hq, h3, h4]
set_option maxRecDepth 100000 in
set_option maxHeartbeats 4000000 in
theorem sayable_calls {w : World} {D : Nat} {v : Value} {ts : List Tsk} (hT : IsTas w D v ts) (hs : ∀ t ∈ ts, tkS t) (hP : Pg w) : Calls Tryz.prog 33 #[v] w fun e w' => e = .returned (.bool (manO nameB ptW clB ts)) ∧ Below w.heap.size w w' := by
  obtain ⟨a, c, rfl, hlc, hmc⟩ := hT.shape
  have HT := hide hT
  have HS := hide hs
  have HP := hide hP
  have HLC := hide hlc
  have hli : (ts.length : Int) ≤ 9223372036854775807 := by omega
  obtain ⟨r, hr⟩ : ∃ r, r = manO nameB ptW clB ts := ⟨_, rfl⟩
  rw [← hr]
  have HR : Hid (r = (decide (ts.length ≤ 256) && tsO nameB ptW clB [] [] ts)) := hide hr
  clear hr hT hs hP hlc hmc
  by_cases h64 : 256 < ts.length
  · have hx : (256 : Int) < (ts.length : Int) := by omega
    have HV : Hid (r = false) := hide (by rw [HR.out, decide_eq_false (by omega)]; rfl)
    clear h64
    go_enter Tryz.func33, Tryz.ntmps33
    go_wp2
    go_ret
    exact ⟨by rw [HV.out]; rfl, Below.refl _ _⟩
  · have hx : ¬ (256 : Int) < (ts.length : Int) := by omega
    have hxd : decide ((256 : Int) < (ts.length : Int)) = false := decide_eq_false hx
    have HN : Hid (ts.length ≤ 256) := hide (by omega)
    have HM0 := hide (ma_new w)
    clear h64
    go_enter Tryz.func33, Tryz.ntmps33
    go_wp2_with fail
    go_loopw [11] (fun iv wr => ∃ j : Nat, iv = .int .i64 (j : Int) ∧ j ≤ ts.length ∧ Hid (Below w.heap.size w wr ∧ tsO nameB ptW clB [] [] (ts.take j) = true ∧ (∃ vm', Ma w wr w.heap.size vm' ((ts.take j).flatMap outsOf)) ∧ ((ts.take j).flatMap outsOf).length ≤ 8 * j)) (fun iv _ => ts.length - (intOf iv).toNat)
    case atStart => exact ⟨0, rfl, Nat.zero_le _, hide ⟨HM0.out.old, rfl, ⟨_, HM0.out⟩, Nat.le_refl _⟩⟩
    case round =>
      obtain ⟨j, rfl, hjq, HJ⟩ := hrel
      by_cases hlt : j < ts.length
      · have hlti : (j : Int) < (ts.length : Int) := by omega
        have HIT := hide (tsO_take (nm := nameB) (pt := ptW) (cl := clB) (nms := []) (md := []) (z := Tsk.nul) hlt)
        have HIF := hide (tsO_false (nm := nameB) (pt := ptW) (cl := clB) (nms := []) (md := []) (l := ts) (i := j + 1))
        have HFM : Hid ((ts.take (j + 1)).flatMap outsOf = (ts.take j).flatMap outsOf ++ outsOf (ts.getD j .nul)) := hide (by rw [List.take_succ_eq_append_getElem hlt, List.flatMap_append, List.getD_eq_getElem?_getD, List.getElem?_eq_getElem hlt]; simp)
        obtain ⟨b, o, c', vi, vo, hv, hrg, hta⟩ := HT.out.at hlt
        cases hv
        have hc0 : c ≠ 0 := by have := HLC.out; omega
        have hsl : ∀ W2, (Instr.sliceAt 38 (.slice (some ⟨b, o, none⟩) ts.length c) none (some (.int .i64 (j : Int))) none).run Tryz.prog W2 = .ok (.slice (some ⟨b, o, none⟩) j c) W2 := fun W2 => slice_hT b o ts.length c j (by have := HLC.out; omega) hc0 W2
        have hrr := rangeAt_below hrg HJ.out.1
        have hmem : ts.getD j .nul ∈ ts := by rw [List.getD_eq_getElem?_getD, List.getElem?_eq_getElem hlt]; exact List.getElem_mem hlt
        have hsj := HS.out _ hmem
        have HND := hide (fun (W2 : World) (s : ByteArray) (h : Below w.heap.size w W2) => named_calls s (HT.out.pre (j := j) (by omega)) h)
        obtain ⟨vi', vo', hva, hvi, hvo⟩ := hta
        have e1 : vi' = vi ∧ vo' = vo := by
          have : (tsC (ts.getD j .nul).name (ts.getD j .nul).budget vi vo) = (tsC (ts.getD j .nul).name (ts.getD j .nul).budget vi' vo') := by
            have := congrArg (fun x => match x with | .agg a => a.toList | _ => []) hva
            simpa using this
          unfold tsC at this
          simp only [List.cons.injEq, and_true, true_and] at this
          exact ⟨this.1.symm, this.2.symm⟩
        obtain ⟨rfl, rfl⟩ := e1
        obtain ⟨T, hTe⟩ : ∃ x, x = ts.getD j .nul := ⟨_, rfl⟩
        rw [← hTe] at hrr HIT HFM hsj hvi hvo
        obtain ⟨nm, bd, ins, outs⟩ := T
        have hrr : wr.rangeAt b (o + j * 4) (tsC nm bd vi' vo') := hrr
        have hsj1 : nm.size ≤ 2000000 := hsj.1
        have hone : ∀ x ∈ tsC nm bd vi' vo', x.oneCell' = true := tsC_one (by obtain ⟨a1, c1, q, _⟩ := hvi; rw [q]; rfl) (by obtain ⟨a1, c1, q, _⟩ := hvo; rw [q]; rfl)
        obtain ⟨vj, hvj⟩ := HJ.out.2.2.1
        obtain ⟨mj, hmj⟩ : ∃ m, m = (ts.take j).flatMap outsOf := ⟨_, rfl⟩
        rw [← hmj] at hvj
        have HMJ := hide hvj
        have HML : Hid (mj.length ≤ 8 * j) := hide (by rw [hmj]; exact HJ.out.2.2.2)
        have HNM : Hid (∀ W2 : World, Calls Tryz.prog 51 #[.string nm] W2 fun e w' => e = .returned (.bool (nameB nm)) ∧ Below W2.heap.size W2 w') := hide (fun W2 => name_calls nm (by omega) W2)
        have HND : Hid (∀ W2 : World, Below w.heap.size w W2 → Calls Tryz.prog 52 #[.slice (some ⟨b, o, none⟩) j c, .string nm] W2 fun e w' => e = .returned (.bool (hasB ((ts.take j).map (·.name)) nm)) ∧ Below W2.heap.size W2 w') := hide (fun W2 h => HND.out W2 nm h)
        have HWI := hide (fun W2 => rwithin_calls bd 1 1048576 W2)
        have HIN := hide (fun (W2 : World) (h : Below w.heap.size w W2) => pinputs_calls (hvi.below h) hsj.2.1 (HP.out.below h))
        have HOU := hide (fun (W2 : World) (vm : Value) (h : Ma w W2 w.heap.size vm mj) => poutputs_calls hvo hsj.2.2 HP.out h (by have := HML.out; have := HN.out; omega))
        obtain ⟨ia, ic, hvi2, hic, him⟩ : ∃ a c, vi' = .slice a ins.length c ∧ ins.length ≤ c ∧ c ≤ 9223372036854775807 := by obtain ⟨a1, c1, e, h1, h2, _⟩ := hvi; exact ⟨a1, c1, e, h1, h2⟩
        have HIT : Hid (tsO nameB ptW clB [] [] (ts.take (j + 1)) = (tsO nameB ptW clB [] [] (ts.take j) && (nameB nm && (!hasB ((ts.take j).map (·.name)) nm && ((decide (1 ≤ bd) && decide (bd ≤ 1048576)) && ((decide (ins.length ≤ 64) && insO ptW [] ins) && (decide (1 ≤ outs.length ∧ outs.length ≤ 8) && outsO nameB ptW clB mj outs))))))) := hide (by
          rw [HIT.out, hmj]
          congr 1
          have : tskO nameB ptW clB ((ts.take j).flatMap outsOf) ⟨nm, bd, ins, outs⟩ = (nameB nm && (decide (1 ≤ bd ∧ bd ≤ 1048576 ∧ ins.length ≤ 64 ∧ 1 ≤ outs.length ∧ outs.length ≤ 8) && (insO ptW [] ins && outsO nameB ptW clB ((ts.take j).flatMap outsOf) outs))) := rfl
          rw [List.nil_append, List.nil_append, this]
          exact tk_all )
        have HFM : Hid ((ts.take (j + 1)).flatMap outsOf = mj ++ outs.map (·.1)) := hide (by rw [HFM.out, hmj]; rfl)
        obtain ⟨nb, hnb⟩ : ∃ x, x = nameB nm := ⟨_, rfl⟩
        obtain ⟨hb, hhb⟩ : ∃ x, x = hasB ((ts.take j).map (·.name)) nm := ⟨_, rfl⟩
        obtain ⟨wb, hwb⟩ : ∃ x, x = (decide (1 ≤ bd) && decide (bd ≤ 1048576)) := ⟨_, rfl⟩
        obtain ⟨ib, hib⟩ : ∃ x, x = (decide (ins.length ≤ 64) && insO ptW [] ins) := ⟨_, rfl⟩
        obtain ⟨ob, hob⟩ : ∃ x, x = (decide (1 ≤ outs.length ∧ outs.length ≤ 8) && outsO nameB ptW clB mj outs) := ⟨_, rfl⟩
        have HOL : Hid (ob = true → outs.length ≤ 8) := hide (fun e => by rw [hob, Bool.and_eq_true] at e; exact (of_decide_eq_true e.1).2)
        rw [← hnb] at HNM HIT
        rw [← hhb] at HND HIT
        rw [← hwb] at HWI HIT
        rw [← hib] at HIN HIT
        rw [← hob] at HOU HIT
        have hwj : IntKind.i64.wrap ((j : Int) + 1) = ((j + 1 : Nat) : Int) := by rw [IntKind.wrap_i64]; omega
        have HOV : Hid (∃ a1 c1, vo' = .slice a1 outs.length c1) := hide (by obtain ⟨a1, c1, q, _⟩ := hvo; exact ⟨a1, c1, q⟩)
        obtain ⟨oa, oc, hov⟩ := HOV.out
        subst hvi2
        subst hov
        clear HOV
        clear hrg hmem hsj hvi hvo hva hTe hvj hmj hnb hhb hwb hib hob hic him hsj1
        go_wp2_with (first
          | (refine wpList_loadJ rfl 25 (.tmp 14) rfl b (o + j * 4) rfl (tsC nm bd (.slice ia ins.length ic) (.slice oa outs.length oc)) _ hrr Tryz.underlying25 rfl (infoTss _ _ _ _) ?_)
          | (refine wpList_allocJ rfl 25 rfl infoTsz ?_)
          | (refine wpList_storeJ rfl (.tmp 5) (.tmp 15) 25 rfl rfl rfl (Arr.new wr zTs 25) (infoTss _ _ _ _) rfl hone ?_; intro w9 hA9 hg9; have HX9 := hide (jbelow_grown (jalloc_below wr (.cells zTs.toArray 25)) hg9 (by simp) (Nat.le_refl _)); have HA9 := hide hA9; clear hA9 hg9)
          | fail)
        have HB9 := hide (below_then HJ.out.1 HX9.out)
        have HM9 := hide (HMJ.out.below HX9.out)
        have HSS : Hid (∀ W2, (Below w9.heap.size w9 W2 ∨ Ch w.heap.size MaT w9 W2) → W2.cell? ⟨wr.heap.size, 0, none⟩ = some (.string nm) ∧ W2.cell? ⟨wr.heap.size, 1, none⟩ = some (.int .i64 bd) ∧ W2.cell? ⟨wr.heap.size, 2, none⟩ = some (.slice ia ins.length ic) ∧ W2.cell? ⟨wr.heap.size, 3, none⟩ = some (.slice oa outs.length oc)) := hide (fun W2 hh => by
          have hA : Arr W2 wr.heap.size 25 (tsC nm bd (.slice ia ins.length ic) (.slice oa outs.length oc)) := by
            rcases hh with hh | hh
            · exact HA9.out.below hh
            · exact HA9.out.ch hh (by unfold MaT; decide)
          exact tsC_arr hA)
        have HNM9 : Hid (∀ W2, Below w9.heap.size w9 W2 → Calls Tryz.prog 51 #[.string nm] W2 fun e w' => e = .returned (.bool nb) ∧ Below w9.heap.size w9 w') := hide (fun W2 h => (HNM.out W2).mono fun e w' ⟨h1, h2⟩ => ⟨h1, below_then h h2⟩)
        have HND9 : Hid (∀ W2, Below w9.heap.size w9 W2 → Calls Tryz.prog 52 #[.slice (some ⟨b, o, none⟩) j c, .string nm] W2 fun e w' => e = .returned (.bool hb) ∧ Below w9.heap.size w9 w') := hide (fun W2 h => (HND.out W2 (HB9.out.trans (h.mono HB9.out.size))).mono fun e w' ⟨h1, h2⟩ => ⟨h1, below_then h h2⟩)
        clear hrr hone HNM HND
        cases nb with
        | false =>
          clear HOU HIN HM9 HMJ
          go_wp2_with fail
          refine wp_region_held_drew (S := fun W2 => W2.cell? ⟨wr.heap.size, 0, none⟩ = some (.string nm) ∧ W2.cell? ⟨wr.heap.size, 1, none⟩ = some (.int .i64 bd) ∧ W2.cell? ⟨wr.heap.size, 2, none⟩ = some (.slice ia ins.length ic) ∧ W2.cell? ⟨wr.heap.size, 3, none⟩ = some (.slice oa outs.length oc)) (by kernel_rfl) (unhide HSS _ (Or.inl (Below.refl _ _).drew)) (fun hHeld => ?_)
          refine wpAnyH_take (i := 0) (v := .pointer (some ⟨wr.heap.size, 0, none⟩)) rfl (by kernel_rfl) (by kernel_rfl) (by kernel_rfl) (fun _ _ _ h => h) (Or.inl ⟨by rfl, fun w hSw => by obtain ⟨hS1, hS2, hS3, hS4⟩ := hSw; go_simp⟩) (by assumption) ?_
          simp only [List.getElem_toArray, List.getElem_cons_zero, Act.put, List.setIfInBounds_toArray, List.set_cons_zero, List.set_cons_succ]
          refine wpAnyH_take (i := 1) (v := .string nm) rfl (by kernel_rfl) (by kernel_rfl) (by kernel_rfl) (fun _ _ _ h => h) (Or.inl ⟨by rfl, fun w hSw => by obtain ⟨hS1, hS2, hS3, hS4⟩ := hSw; go_simp⟩) (by assumption) ?_
          simp only [List.getElem_toArray, List.getElem_cons_succ, List.getElem_cons_zero, Act.put, List.setIfInBounds_toArray, List.set_cons_zero, List.set_cons_succ]
          refine wpAnyH_ready (rs := [2]) (by kernel_rfl) (by simp) (AllReadyH.cons rfl (fun K hK => ?_) AllReadyH.nil)
          refine step_call1J (by rfl) 51 (fun v W => by kernel_rfl) (.tmp 17) _ rfl rfl (unhide HNM9 _ (Below.refl _ _).drew) ?_
          rintro e w7 ⟨rfl, hb7⟩
          refine ⟨_, rfl, ?_⟩
          refine hK.out _ _ (unhide HSS _ (Or.inl hb7)) (fun hH7 => ?_)
          clear hK K
          simp only [List.getElem_toArray, List.getElem_cons_succ, List.getElem_cons_zero, Act.put, List.setIfInBounds_toArray, List.set_cons_zero, List.set_cons_succ]
          refine wpAnyH_take (i := 3) (v := .bool true) rfl (by kernel_rfl) (by kernel_rfl) (by kernel_rfl) (fun _ _ _ h => h) (Or.inl ⟨by rfl, fun w hSw => by obtain ⟨hS1, hS2, hS3, hS4⟩ := hSw; go_simp⟩) (by assumption) ?_
          simp only [List.getElem_toArray, List.getElem_cons_succ, List.getElem_cons_zero, Act.put, List.setIfInBounds_toArray, List.set_cons_zero, List.set_cons_succ]
          refine wpAnyH_take (i := 4) (v := .bool true) rfl (by kernel_rfl) (by kernel_rfl) (by kernel_rfl) (fun _ _ _ h => h) (Or.inl ⟨by rfl, fun w hSw => by obtain ⟨hS1, hS2, hS3, hS4⟩ := hSw; go_simp⟩) (by assumption) ?_
          simp only [List.getElem_toArray, List.getElem_cons_succ, List.getElem_cons_zero, Act.put, List.setIfInBounds_toArray, List.set_cons_zero, List.set_cons_succ]
          refine wpAnyH_take (i := 5) (v := undef) rfl (by kernel_rfl) (by kernel_rfl) (by kernel_rfl) (fun _ _ _ h => h) (Or.inr ⟨by rfl, rfl⟩) (by assumption) ?_
          simp only [List.getElem_toArray, List.getElem_cons_succ, List.getElem_cons_zero, Act.put, List.setIfInBounds_toArray, List.set_cons_zero, List.set_cons_succ]
          refine wpAnyH_take (i := 6) (v := undef) rfl (by kernel_rfl) (by kernel_rfl) (by kernel_rfl) (fun _ _ _ h => h) (Or.inr ⟨by rfl, rfl⟩) (by assumption) ?_
          simp only [List.getElem_toArray, List.getElem_cons_succ, List.getElem_cons_zero, Act.put, List.setIfInBounds_toArray, List.set_cons_zero, List.set_cons_succ]
          refine wpAnyH_take (i := 7) (v := undef) rfl (by kernel_rfl) (by kernel_rfl) (by kernel_rfl) (fun _ _ _ h => h) (Or.inr ⟨by rfl, rfl⟩) (by assumption) ?_
          simp only [List.getElem_toArray, List.getElem_cons_succ, List.getElem_cons_zero, Act.put, List.setIfInBounds_toArray, List.set_cons_zero, List.set_cons_succ]
          refine wpAnyH_take (i := 8) (v := undef) rfl (by kernel_rfl) (by kernel_rfl) (by kernel_rfl) (fun _ _ _ h => h) (Or.inr ⟨by rfl, rfl⟩) (by assumption) ?_
          simp only [List.getElem_toArray, List.getElem_cons_succ, List.getElem_cons_zero, Act.put, List.setIfInBounds_toArray, List.set_cons_zero, List.set_cons_succ]
          refine wpAnyH_take (i := 9) (v := undef) rfl (by kernel_rfl) (by kernel_rfl) (by kernel_rfl) (fun _ _ _ h => h) (Or.inr ⟨by rfl, rfl⟩) (by assumption) ?_
          simp only [List.getElem_toArray, List.getElem_cons_succ, List.getElem_cons_zero, Act.put, List.setIfInBounds_toArray, List.set_cons_zero, List.set_cons_succ]
          refine wpAnyH_take (i := 10) (v := undef) rfl (by kernel_rfl) (by kernel_rfl) (by kernel_rfl) (fun _ _ _ h => h) (Or.inr ⟨by rfl, rfl⟩) (by assumption) ?_
          simp only [List.getElem_toArray, List.getElem_cons_succ, List.getElem_cons_zero, Act.put, List.setIfInBounds_toArray, List.set_cons_zero, List.set_cons_succ]
          refine wpAnyH_take (i := 11) (v := .bool true) rfl (by kernel_rfl) (by kernel_rfl) (by kernel_rfl) (fun _ _ _ h => h) (Or.inl ⟨by rfl, fun w hSw => by obtain ⟨hS1, hS2, hS3, hS4⟩ := hSw; go_simp⟩) (by assumption) ?_
          simp only [List.getElem_toArray, List.getElem_cons_succ, List.getElem_cons_zero, Act.put, List.setIfInBounds_toArray, List.set_cons_zero, List.set_cons_succ]
          refine wpAnyH_take (i := 12) (v := .bool true) rfl (by kernel_rfl) (by kernel_rfl) (by kernel_rfl) (fun _ _ _ h => h) (Or.inl ⟨by rfl, fun w hSw => by obtain ⟨hS1, hS2, hS3, hS4⟩ := hSw; go_simp⟩) (by assumption) ?_
          simp only [List.getElem_toArray, List.getElem_cons_succ, List.getElem_cons_zero, Act.put, List.setIfInBounds_toArray, List.set_cons_zero, List.set_cons_succ]
          refine wpAnyH_take (i := 13) (v := undef) rfl (by kernel_rfl) (by kernel_rfl) (by kernel_rfl) (fun _ _ _ h => h) (Or.inr ⟨by rfl, rfl⟩) (by assumption) ?_
          simp only [List.getElem_toArray, List.getElem_cons_succ, List.getElem_cons_zero, Act.put, List.setIfInBounds_toArray, List.set_cons_zero, List.set_cons_succ]
          refine wpAnyH_take (i := 14) (v := undef) rfl (by kernel_rfl) (by kernel_rfl) (by kernel_rfl) (fun _ _ _ h => h) (Or.inr ⟨by rfl, rfl⟩) (by assumption) ?_
          simp only [List.getElem_toArray, List.getElem_cons_succ, List.getElem_cons_zero, Act.put, List.setIfInBounds_toArray, List.set_cons_zero, List.set_cons_succ]
          refine wpAnyH_take (i := 15) (v := undef) rfl (by kernel_rfl) (by kernel_rfl) (by kernel_rfl) (fun _ _ _ h => h) (Or.inr ⟨by rfl, rfl⟩) (by assumption) ?_
          simp only [List.getElem_toArray, List.getElem_cons_succ, List.getElem_cons_zero, Act.put, List.setIfInBounds_toArray, List.set_cons_zero, List.set_cons_succ]
          refine wpAnyH_take (i := 16) (v := undef) rfl (by kernel_rfl) (by kernel_rfl) (by kernel_rfl) (fun _ _ _ h => h) (Or.inr ⟨by rfl, rfl⟩) (by assumption) ?_
          simp only [List.getElem_toArray, List.getElem_cons_succ, List.getElem_cons_zero, Act.put, List.setIfInBounds_toArray, List.set_cons_zero, List.set_cons_succ]
          refine wpAnyH_take (i := 17) (v := .bool true) rfl (by kernel_rfl) (by kernel_rfl) (by kernel_rfl) (fun _ _ _ h => h) (Or.inl ⟨by rfl, fun w hSw => by obtain ⟨hS1, hS2, hS3, hS4⟩ := hSw; go_simp⟩) (by assumption) ?_
          simp only [List.getElem_toArray, List.getElem_cons_succ, List.getElem_cons_zero, Act.put, List.setIfInBounds_toArray, List.set_cons_zero, List.set_cons_succ]
          refine wpAnyH_done (by kernel_rfl) ?_ _
          have HV : Hid (r = false) := hide (by rw [HR.out, HIF.out (by rw [HIT.out]; simp), Bool.and_false])
          go_wp2
          go_ret
          exact ⟨by rw [HV.out]; rfl, (HB9.out.trans (hb7.mono HB9.out.size))⟩
        | true =>
          cases hb with
          | true =>
            clear HOU HIN HM9 HMJ
            go_wp2_with fail
            refine wp_region_held_drew (S := fun W2 => W2.cell? ⟨wr.heap.size, 0, none⟩ = some (.string nm) ∧ W2.cell? ⟨wr.heap.size, 1, none⟩ = some (.int .i64 bd) ∧ W2.cell? ⟨wr.heap.size, 2, none⟩ = some (.slice ia ins.length ic) ∧ W2.cell? ⟨wr.heap.size, 3, none⟩ = some (.slice oa outs.length oc)) (by kernel_rfl) (unhide HSS _ (Or.inl (Below.refl _ _).drew)) (fun hHeld => ?_)
            refine wpAnyH_take (i := 0) (v := .pointer (some ⟨wr.heap.size, 0, none⟩)) rfl (by kernel_rfl) (by kernel_rfl) (by kernel_rfl) (fun _ _ _ h => h) (Or.inl ⟨by rfl, fun w hSw => by obtain ⟨hS1, hS2, hS3, hS4⟩ := hSw; go_simp⟩) (by assumption) ?_
            simp only [List.getElem_toArray, List.getElem_cons_zero, Act.put, List.setIfInBounds_toArray, List.set_cons_zero, List.set_cons_succ]
            refine wpAnyH_take (i := 1) (v := .string nm) rfl (by kernel_rfl) (by kernel_rfl) (by kernel_rfl) (fun _ _ _ h => h) (Or.inl ⟨by rfl, fun w hSw => by obtain ⟨hS1, hS2, hS3, hS4⟩ := hSw; go_simp⟩) (by assumption) ?_
            simp only [List.getElem_toArray, List.getElem_cons_succ, List.getElem_cons_zero, Act.put, List.setIfInBounds_toArray, List.set_cons_zero, List.set_cons_succ]
            refine wpAnyH_ready (rs := [2]) (by kernel_rfl) (by simp) (AllReadyH.cons rfl (fun K hK => ?_) AllReadyH.nil)
            refine step_call1J (by rfl) 51 (fun v W => by kernel_rfl) (.tmp 17) _ rfl rfl (unhide HNM9 _ (Below.refl _ _).drew) ?_
            rintro e w7 ⟨rfl, hb7⟩
            refine ⟨_, rfl, ?_⟩
            refine hK.out _ _ (unhide HSS _ (Or.inl hb7)) (fun hH7 => ?_)
            clear hK K
            simp only [List.getElem_toArray, List.getElem_cons_succ, List.getElem_cons_zero, Act.put, List.setIfInBounds_toArray, List.set_cons_zero, List.set_cons_succ]
            refine wpAnyH_take (i := 3) (v := .bool false) rfl (by kernel_rfl) (by kernel_rfl) (by kernel_rfl) (fun _ _ _ h => h) (Or.inl ⟨by rfl, fun w hSw => by obtain ⟨hS1, hS2, hS3, hS4⟩ := hSw; go_simp⟩) (by assumption) ?_
            simp only [List.getElem_toArray, List.getElem_cons_succ, List.getElem_cons_zero, Act.put, List.setIfInBounds_toArray, List.set_cons_zero, List.set_cons_succ]
            refine wpAnyH_take (i := 4) (v := .bool false) rfl (by kernel_rfl) (by kernel_rfl) (by kernel_rfl) (fun _ _ _ h => h) (Or.inl ⟨by rfl, fun w hSw => by obtain ⟨hS1, hS2, hS3, hS4⟩ := hSw; go_simp⟩) (by assumption) ?_
            simp only [List.getElem_toArray, List.getElem_cons_succ, List.getElem_cons_zero, Act.put, List.setIfInBounds_toArray, List.set_cons_zero, List.set_cons_succ]
            refine wpAnyH_take (i := 5) (v := .slice (some ⟨b, o, none⟩) ts.length c) rfl (by kernel_rfl) (by kernel_rfl) (by kernel_rfl) (fun _ _ _ h => h) (Or.inl ⟨by rfl, fun w hSw => by obtain ⟨hS1, hS2, hS3, hS4⟩ := hSw; go_simp⟩) (by assumption) ?_
            simp only [List.getElem_toArray, List.getElem_cons_succ, List.getElem_cons_zero, Act.put, List.setIfInBounds_toArray, List.set_cons_zero, List.set_cons_succ]
            refine wpAnyH_take (i := 6) (v := .int .i64 (j : Int)) rfl (by kernel_rfl) (by kernel_rfl) (by kernel_rfl) (fun _ _ _ h => h) (Or.inl ⟨by rfl, fun w hSw => by obtain ⟨hS1, hS2, hS3, hS4⟩ := hSw; go_simp⟩) (by assumption) ?_
            simp only [List.getElem_toArray, List.getElem_cons_succ, List.getElem_cons_zero, Act.put, List.setIfInBounds_toArray, List.set_cons_zero, List.set_cons_succ]
            refine wpAnyH_take (i := 7) (v := .slice (some ⟨b, o, none⟩) j c) rfl (by kernel_rfl) (by kernel_rfl) (by kernel_rfl) (fun _ _ _ h => h) (Or.inl ⟨by rfl, fun w hSw => by obtain ⟨hS1, hS2, hS3, hS4⟩ := hSw; go_simp⟩) (by assumption) ?_
            simp only [List.getElem_toArray, List.getElem_cons_succ, List.getElem_cons_zero, Act.put, List.setIfInBounds_toArray, List.set_cons_zero, List.set_cons_succ]
            refine wpAnyH_take (i := 8) (v := .pointer (some ⟨wr.heap.size, 0, none⟩)) rfl (by kernel_rfl) (by kernel_rfl) (by kernel_rfl) (fun _ _ _ h => h) (Or.inl ⟨by rfl, fun w hSw => by obtain ⟨hS1, hS2, hS3, hS4⟩ := hSw; go_simp⟩) (by assumption) ?_
            simp only [List.getElem_toArray, List.getElem_cons_succ, List.getElem_cons_zero, Act.put, List.setIfInBounds_toArray, List.set_cons_zero, List.set_cons_succ]
            refine wpAnyH_take (i := 9) (v := .string nm) rfl (by kernel_rfl) (by kernel_rfl) (by kernel_rfl) (fun _ _ _ h => h) (Or.inl ⟨by rfl, fun w hSw => by obtain ⟨hS1, hS2, hS3, hS4⟩ := hSw; go_simp⟩) (by assumption) ?_
            simp only [List.getElem_toArray, List.getElem_cons_succ, List.getElem_cons_zero, Act.put, List.setIfInBounds_toArray, List.set_cons_zero, List.set_cons_succ]
            refine wpAnyH_ready (rs := [10]) (by kernel_rfl) (by simp) (AllReadyH.cons rfl (fun K hK => ?_) AllReadyH.nil)
            refine step_call2J (by rfl) 52 (fun v u W => by kernel_rfl) (.tmp 23) (.tmp 25) _ rfl rfl rfl (unhide HND9 _ hb7) ?_
            rintro e w8 ⟨rfl, hb8⟩
            refine ⟨_, rfl, ?_⟩
            refine hK.out _ _ (unhide HSS _ (Or.inl hb8)) (fun hH8 => ?_)
            clear hK K
            simp only [List.getElem_toArray, List.getElem_cons_succ, List.getElem_cons_zero, Act.put, List.setIfInBounds_toArray, List.set_cons_zero, List.set_cons_succ]
            refine wpAnyH_take (i := 11) (v := .bool true) rfl (by kernel_rfl) (by kernel_rfl) (by kernel_rfl) (fun _ _ _ h => h) (Or.inl ⟨by rfl, fun w hSw => by obtain ⟨hS1, hS2, hS3, hS4⟩ := hSw; go_simp⟩) (by assumption) ?_
            simp only [List.getElem_toArray, List.getElem_cons_succ, List.getElem_cons_zero, Act.put, List.setIfInBounds_toArray, List.set_cons_zero, List.set_cons_succ]
            refine wpAnyH_take (i := 12) (v := .bool true) rfl (by kernel_rfl) (by kernel_rfl) (by kernel_rfl) (fun _ _ _ h => h) (Or.inl ⟨by rfl, fun w hSw => by obtain ⟨hS1, hS2, hS3, hS4⟩ := hSw; go_simp⟩) (by assumption) ?_
            simp only [List.getElem_toArray, List.getElem_cons_succ, List.getElem_cons_zero, Act.put, List.setIfInBounds_toArray, List.set_cons_zero, List.set_cons_succ]
            refine wpAnyH_take (i := 13) (v := undef) rfl (by kernel_rfl) (by kernel_rfl) (by kernel_rfl) (fun _ _ _ h => h) (Or.inr ⟨by rfl, rfl⟩) (by assumption) ?_
            simp only [List.getElem_toArray, List.getElem_cons_succ, List.getElem_cons_zero, Act.put, List.setIfInBounds_toArray, List.set_cons_zero, List.set_cons_succ]
            refine wpAnyH_take (i := 14) (v := undef) rfl (by kernel_rfl) (by kernel_rfl) (by kernel_rfl) (fun _ _ _ h => h) (Or.inr ⟨by rfl, rfl⟩) (by assumption) ?_
            simp only [List.getElem_toArray, List.getElem_cons_succ, List.getElem_cons_zero, Act.put, List.setIfInBounds_toArray, List.set_cons_zero, List.set_cons_succ]
            refine wpAnyH_take (i := 15) (v := undef) rfl (by kernel_rfl) (by kernel_rfl) (by kernel_rfl) (fun _ _ _ h => h) (Or.inr ⟨by rfl, rfl⟩) (by assumption) ?_
            simp only [List.getElem_toArray, List.getElem_cons_succ, List.getElem_cons_zero, Act.put, List.setIfInBounds_toArray, List.set_cons_zero, List.set_cons_succ]
            refine wpAnyH_take (i := 16) (v := undef) rfl (by kernel_rfl) (by kernel_rfl) (by kernel_rfl) (fun _ _ _ h => h) (Or.inr ⟨by rfl, rfl⟩) (by assumption) ?_
            simp only [List.getElem_toArray, List.getElem_cons_succ, List.getElem_cons_zero, Act.put, List.setIfInBounds_toArray, List.set_cons_zero, List.set_cons_succ]
            refine wpAnyH_take (i := 17) (v := .bool true) rfl (by kernel_rfl) (by kernel_rfl) (by kernel_rfl) (fun _ _ _ h => h) (Or.inl ⟨by rfl, fun w hSw => by obtain ⟨hS1, hS2, hS3, hS4⟩ := hSw; go_simp⟩) (by assumption) ?_
            simp only [List.getElem_toArray, List.getElem_cons_succ, List.getElem_cons_zero, Act.put, List.setIfInBounds_toArray, List.set_cons_zero, List.set_cons_succ]
            refine wpAnyH_done (by kernel_rfl) ?_ _
            have HV : Hid (r = false) := hide (by rw [HR.out, HIF.out (by rw [HIT.out]; simp), Bool.and_false])
            go_wp2
            go_ret
            exact ⟨by rw [HV.out]; rfl, (HB9.out.trans (hb8.mono HB9.out.size))⟩
          | false =>
            cases wb with
            | false =>
              clear HOU HIN HM9 HMJ
              go_wp2_with fail
              refine wp_region_held_drew (S := fun W2 => W2.cell? ⟨wr.heap.size, 0, none⟩ = some (.string nm) ∧ W2.cell? ⟨wr.heap.size, 1, none⟩ = some (.int .i64 bd) ∧ W2.cell? ⟨wr.heap.size, 2, none⟩ = some (.slice ia ins.length ic) ∧ W2.cell? ⟨wr.heap.size, 3, none⟩ = some (.slice oa outs.length oc)) (by kernel_rfl) (unhide HSS _ (Or.inl (Below.refl _ _).drew)) (fun hHeld => ?_)
              refine wpAnyH_take (i := 0) (v := .pointer (some ⟨wr.heap.size, 0, none⟩)) rfl (by kernel_rfl) (by kernel_rfl) (by kernel_rfl) (fun _ _ _ h => h) (Or.inl ⟨by rfl, fun w hSw => by obtain ⟨hS1, hS2, hS3, hS4⟩ := hSw; go_simp⟩) (by assumption) ?_
              simp only [List.getElem_toArray, List.getElem_cons_zero, Act.put, List.setIfInBounds_toArray, List.set_cons_zero, List.set_cons_succ]
              refine wpAnyH_take (i := 1) (v := .string nm) rfl (by kernel_rfl) (by kernel_rfl) (by kernel_rfl) (fun _ _ _ h => h) (Or.inl ⟨by rfl, fun w hSw => by obtain ⟨hS1, hS2, hS3, hS4⟩ := hSw; go_simp⟩) (by assumption) ?_
              simp only [List.getElem_toArray, List.getElem_cons_succ, List.getElem_cons_zero, Act.put, List.setIfInBounds_toArray, List.set_cons_zero, List.set_cons_succ]
              refine wpAnyH_ready (rs := [2]) (by kernel_rfl) (by simp) (AllReadyH.cons rfl (fun K hK => ?_) AllReadyH.nil)
              refine step_call1J (by rfl) 51 (fun v W => by kernel_rfl) (.tmp 17) _ rfl rfl (unhide HNM9 _ (Below.refl _ _).drew) ?_
              rintro e w7 ⟨rfl, hb7⟩
              refine ⟨_, rfl, ?_⟩
              refine hK.out _ _ (unhide HSS _ (Or.inl hb7)) (fun hH7 => ?_)
              clear hK K
              simp only [List.getElem_toArray, List.getElem_cons_succ, List.getElem_cons_zero, Act.put, List.setIfInBounds_toArray, List.set_cons_zero, List.set_cons_succ]
              refine wpAnyH_take (i := 3) (v := .bool false) rfl (by kernel_rfl) (by kernel_rfl) (by kernel_rfl) (fun _ _ _ h => h) (Or.inl ⟨by rfl, fun w hSw => by obtain ⟨hS1, hS2, hS3, hS4⟩ := hSw; go_simp⟩) (by assumption) ?_
              simp only [List.getElem_toArray, List.getElem_cons_succ, List.getElem_cons_zero, Act.put, List.setIfInBounds_toArray, List.set_cons_zero, List.set_cons_succ]
              refine wpAnyH_take (i := 4) (v := .bool false) rfl (by kernel_rfl) (by kernel_rfl) (by kernel_rfl) (fun _ _ _ h => h) (Or.inl ⟨by rfl, fun w hSw => by obtain ⟨hS1, hS2, hS3, hS4⟩ := hSw; go_simp⟩) (by assumption) ?_
              simp only [List.getElem_toArray, List.getElem_cons_succ, List.getElem_cons_zero, Act.put, List.setIfInBounds_toArray, List.set_cons_zero, List.set_cons_succ]
              refine wpAnyH_take (i := 5) (v := .slice (some ⟨b, o, none⟩) ts.length c) rfl (by kernel_rfl) (by kernel_rfl) (by kernel_rfl) (fun _ _ _ h => h) (Or.inl ⟨by rfl, fun w hSw => by obtain ⟨hS1, hS2, hS3, hS4⟩ := hSw; go_simp⟩) (by assumption) ?_
              simp only [List.getElem_toArray, List.getElem_cons_succ, List.getElem_cons_zero, Act.put, List.setIfInBounds_toArray, List.set_cons_zero, List.set_cons_succ]
              refine wpAnyH_take (i := 6) (v := .int .i64 (j : Int)) rfl (by kernel_rfl) (by kernel_rfl) (by kernel_rfl) (fun _ _ _ h => h) (Or.inl ⟨by rfl, fun w hSw => by obtain ⟨hS1, hS2, hS3, hS4⟩ := hSw; go_simp⟩) (by assumption) ?_
              simp only [List.getElem_toArray, List.getElem_cons_succ, List.getElem_cons_zero, Act.put, List.setIfInBounds_toArray, List.set_cons_zero, List.set_cons_succ]
              refine wpAnyH_take (i := 7) (v := .slice (some ⟨b, o, none⟩) j c) rfl (by kernel_rfl) (by kernel_rfl) (by kernel_rfl) (fun _ _ _ h => h) (Or.inl ⟨by rfl, fun w hSw => by obtain ⟨hS1, hS2, hS3, hS4⟩ := hSw; go_simp⟩) (by assumption) ?_
              simp only [List.getElem_toArray, List.getElem_cons_succ, List.getElem_cons_zero, Act.put, List.setIfInBounds_toArray, List.set_cons_zero, List.set_cons_succ]
              refine wpAnyH_take (i := 8) (v := .pointer (some ⟨wr.heap.size, 0, none⟩)) rfl (by kernel_rfl) (by kernel_rfl) (by kernel_rfl) (fun _ _ _ h => h) (Or.inl ⟨by rfl, fun w hSw => by obtain ⟨hS1, hS2, hS3, hS4⟩ := hSw; go_simp⟩) (by assumption) ?_
              simp only [List.getElem_toArray, List.getElem_cons_succ, List.getElem_cons_zero, Act.put, List.setIfInBounds_toArray, List.set_cons_zero, List.set_cons_succ]
              refine wpAnyH_take (i := 9) (v := .string nm) rfl (by kernel_rfl) (by kernel_rfl) (by kernel_rfl) (fun _ _ _ h => h) (Or.inl ⟨by rfl, fun w hSw => by obtain ⟨hS1, hS2, hS3, hS4⟩ := hSw; go_simp⟩) (by assumption) ?_
              simp only [List.getElem_toArray, List.getElem_cons_succ, List.getElem_cons_zero, Act.put, List.setIfInBounds_toArray, List.set_cons_zero, List.set_cons_succ]
              refine wpAnyH_ready (rs := [10]) (by kernel_rfl) (by simp) (AllReadyH.cons rfl (fun K hK => ?_) AllReadyH.nil)
              refine step_call2J (by rfl) 52 (fun v u W => by kernel_rfl) (.tmp 23) (.tmp 25) _ rfl rfl rfl (unhide HND9 _ hb7) ?_
              rintro e w8 ⟨rfl, hb8⟩
              refine ⟨_, rfl, ?_⟩
              refine hK.out _ _ (unhide HSS _ (Or.inl hb8)) (fun hH8 => ?_)
              clear hK K
              simp only [List.getElem_toArray, List.getElem_cons_succ, List.getElem_cons_zero, Act.put, List.setIfInBounds_toArray, List.set_cons_zero, List.set_cons_succ]
              refine wpAnyH_take (i := 11) (v := .bool false) rfl (by kernel_rfl) (by kernel_rfl) (by kernel_rfl) (fun _ _ _ h => h) (Or.inl ⟨by rfl, fun w hSw => by obtain ⟨hS1, hS2, hS3, hS4⟩ := hSw; go_simp⟩) (by assumption) ?_
              simp only [List.getElem_toArray, List.getElem_cons_succ, List.getElem_cons_zero, Act.put, List.setIfInBounds_toArray, List.set_cons_zero, List.set_cons_succ]
              refine wpAnyH_take (i := 12) (v := .bool false) rfl (by kernel_rfl) (by kernel_rfl) (by kernel_rfl) (fun _ _ _ h => h) (Or.inl ⟨by rfl, fun w hSw => by obtain ⟨hS1, hS2, hS3, hS4⟩ := hSw; go_simp⟩) (by assumption) ?_
              simp only [List.getElem_toArray, List.getElem_cons_succ, List.getElem_cons_zero, Act.put, List.setIfInBounds_toArray, List.set_cons_zero, List.set_cons_succ]
              refine wpAnyH_take (i := 13) (v := .pointer (some ⟨wr.heap.size, 1, none⟩)) rfl (by kernel_rfl) (by kernel_rfl) (by kernel_rfl) (fun _ _ _ h => h) (Or.inl ⟨by rfl, fun w hSw => by obtain ⟨hS1, hS2, hS3, hS4⟩ := hSw; go_simp⟩) (by assumption) ?_
              simp only [List.getElem_toArray, List.getElem_cons_succ, List.getElem_cons_zero, Act.put, List.setIfInBounds_toArray, List.set_cons_zero, List.set_cons_succ]
              refine wpAnyH_take (i := 14) (v := .int .i64 bd) rfl (by kernel_rfl) (by kernel_rfl) (by kernel_rfl) (fun _ _ _ h => h) (Or.inl ⟨by rfl, fun w hSw => by obtain ⟨hS1, hS2, hS3, hS4⟩ := hSw; go_simp⟩) (by assumption) ?_
              simp only [List.getElem_toArray, List.getElem_cons_succ, List.getElem_cons_zero, Act.put, List.setIfInBounds_toArray, List.set_cons_zero, List.set_cons_succ]
              refine wpAnyH_ready (rs := [15]) (by kernel_rfl) (by simp) (AllReadyH.cons rfl (fun K hK => ?_) AllReadyH.nil)
              refine step_call3J (by rfl) 53 (fun v u z W => by kernel_rfl) (.tmp 30) (.const (.int .i64 1)) (.const (.int .i64 1048576)) _ rfl rfl rfl rfl (unhide HWI _) ?_
              rintro e w10 ⟨rfl, hw10⟩
              subst hw10
              refine ⟨_, rfl, ?_⟩
              refine hK.out _ _ (unhide HSS _ (Or.inl hb8)) (fun hH10 => ?_)
              clear hK K
              simp only [List.getElem_toArray, List.getElem_cons_succ, List.getElem_cons_zero, Act.put, List.setIfInBounds_toArray, List.set_cons_zero, List.set_cons_succ]
              refine wpAnyH_take (i := 16) (v := .bool true) rfl (by kernel_rfl) (by kernel_rfl) (by kernel_rfl) (fun _ _ _ h => h) (Or.inl ⟨by rfl, fun w hSw => by obtain ⟨hS1, hS2, hS3, hS4⟩ := hSw; go_simp⟩) (by assumption) ?_
              simp only [List.getElem_toArray, List.getElem_cons_succ, List.getElem_cons_zero, Act.put, List.setIfInBounds_toArray, List.set_cons_zero, List.set_cons_succ]
              refine wpAnyH_take (i := 17) (v := .bool true) rfl (by kernel_rfl) (by kernel_rfl) (by kernel_rfl) (fun _ _ _ h => h) (Or.inl ⟨by rfl, fun w hSw => by obtain ⟨hS1, hS2, hS3, hS4⟩ := hSw; go_simp⟩) (by assumption) ?_
              simp only [List.getElem_toArray, List.getElem_cons_succ, List.getElem_cons_zero, Act.put, List.setIfInBounds_toArray, List.set_cons_zero, List.set_cons_succ]
              refine wpAnyH_done (by kernel_rfl) ?_ _
              have HV : Hid (r = false) := hide (by rw [HR.out, HIF.out (by rw [HIT.out]; simp), Bool.and_false])
              go_wp2
              go_ret
              exact ⟨by rw [HV.out]; rfl, (HB9.out.trans (hb8.mono HB9.out.size))⟩
            | true =>
              go_wp2_with fail
              refine wp_region_held_drew (S := fun W2 => W2.cell? ⟨wr.heap.size, 0, none⟩ = some (.string nm) ∧ W2.cell? ⟨wr.heap.size, 1, none⟩ = some (.int .i64 bd) ∧ W2.cell? ⟨wr.heap.size, 2, none⟩ = some (.slice ia ins.length ic) ∧ W2.cell? ⟨wr.heap.size, 3, none⟩ = some (.slice oa outs.length oc)) (by kernel_rfl) (unhide HSS _ (Or.inl (Below.refl _ _).drew)) (fun hHeld => ?_)
              refine wpAnyH_take (i := 0) (v := .pointer (some ⟨wr.heap.size, 0, none⟩)) rfl (by kernel_rfl) (by kernel_rfl) (by kernel_rfl) (fun _ _ _ h => h) (Or.inl ⟨by rfl, fun w hSw => by obtain ⟨hS1, hS2, hS3, hS4⟩ := hSw; go_simp⟩) (by assumption) ?_
              simp only [List.getElem_toArray, List.getElem_cons_zero, Act.put, List.setIfInBounds_toArray, List.set_cons_zero, List.set_cons_succ]
              refine wpAnyH_take (i := 1) (v := .string nm) rfl (by kernel_rfl) (by kernel_rfl) (by kernel_rfl) (fun _ _ _ h => h) (Or.inl ⟨by rfl, fun w hSw => by obtain ⟨hS1, hS2, hS3, hS4⟩ := hSw; go_simp⟩) (by assumption) ?_
              simp only [List.getElem_toArray, List.getElem_cons_succ, List.getElem_cons_zero, Act.put, List.setIfInBounds_toArray, List.set_cons_zero, List.set_cons_succ]
              refine wpAnyH_ready (rs := [2]) (by kernel_rfl) (by simp) (AllReadyH.cons rfl (fun K hK => ?_) AllReadyH.nil)
              refine step_call1J (by rfl) 51 (fun v W => by kernel_rfl) (.tmp 17) _ rfl rfl (unhide HNM9 _ (Below.refl _ _).drew) ?_
              rintro e w7 ⟨rfl, hb7⟩
              refine ⟨_, rfl, ?_⟩
              refine hK.out _ _ (unhide HSS _ (Or.inl hb7)) (fun hH7 => ?_)
              clear hK K
              simp only [List.getElem_toArray, List.getElem_cons_succ, List.getElem_cons_zero, Act.put, List.setIfInBounds_toArray, List.set_cons_zero, List.set_cons_succ]
              refine wpAnyH_take (i := 3) (v := .bool false) rfl (by kernel_rfl) (by kernel_rfl) (by kernel_rfl) (fun _ _ _ h => h) (Or.inl ⟨by rfl, fun w hSw => by obtain ⟨hS1, hS2, hS3, hS4⟩ := hSw; go_simp⟩) (by assumption) ?_
              simp only [List.getElem_toArray, List.getElem_cons_succ, List.getElem_cons_zero, Act.put, List.setIfInBounds_toArray, List.set_cons_zero, List.set_cons_succ]
              refine wpAnyH_take (i := 4) (v := .bool false) rfl (by kernel_rfl) (by kernel_rfl) (by kernel_rfl) (fun _ _ _ h => h) (Or.inl ⟨by rfl, fun w hSw => by obtain ⟨hS1, hS2, hS3, hS4⟩ := hSw; go_simp⟩) (by assumption) ?_
              simp only [List.getElem_toArray, List.getElem_cons_succ, List.getElem_cons_zero, Act.put, List.setIfInBounds_toArray, List.set_cons_zero, List.set_cons_succ]
              refine wpAnyH_take (i := 5) (v := .slice (some ⟨b, o, none⟩) ts.length c) rfl (by kernel_rfl) (by kernel_rfl) (by kernel_rfl) (fun _ _ _ h => h) (Or.inl ⟨by rfl, fun w hSw => by obtain ⟨hS1, hS2, hS3, hS4⟩ := hSw; go_simp⟩) (by assumption) ?_
              simp only [List.getElem_toArray, List.getElem_cons_succ, List.getElem_cons_zero, Act.put, List.setIfInBounds_toArray, List.set_cons_zero, List.set_cons_succ]
              refine wpAnyH_take (i := 6) (v := .int .i64 (j : Int)) rfl (by kernel_rfl) (by kernel_rfl) (by kernel_rfl) (fun _ _ _ h => h) (Or.inl ⟨by rfl, fun w hSw => by obtain ⟨hS1, hS2, hS3, hS4⟩ := hSw; go_simp⟩) (by assumption) ?_
              simp only [List.getElem_toArray, List.getElem_cons_succ, List.getElem_cons_zero, Act.put, List.setIfInBounds_toArray, List.set_cons_zero, List.set_cons_succ]
              refine wpAnyH_take (i := 7) (v := .slice (some ⟨b, o, none⟩) j c) rfl (by kernel_rfl) (by kernel_rfl) (by kernel_rfl) (fun _ _ _ h => h) (Or.inl ⟨by rfl, fun w hSw => by obtain ⟨hS1, hS2, hS3, hS4⟩ := hSw; go_simp⟩) (by assumption) ?_
              simp only [List.getElem_toArray, List.getElem_cons_succ, List.getElem_cons_zero, Act.put, List.setIfInBounds_toArray, List.set_cons_zero, List.set_cons_succ]
              refine wpAnyH_take (i := 8) (v := .pointer (some ⟨wr.heap.size, 0, none⟩)) rfl (by kernel_rfl) (by kernel_rfl) (by kernel_rfl) (fun _ _ _ h => h) (Or.inl ⟨by rfl, fun w hSw => by obtain ⟨hS1, hS2, hS3, hS4⟩ := hSw; go_simp⟩) (by assumption) ?_
              simp only [List.getElem_toArray, List.getElem_cons_succ, List.getElem_cons_zero, Act.put, List.setIfInBounds_toArray, List.set_cons_zero, List.set_cons_succ]
              refine wpAnyH_take (i := 9) (v := .string nm) rfl (by kernel_rfl) (by kernel_rfl) (by kernel_rfl) (fun _ _ _ h => h) (Or.inl ⟨by rfl, fun w hSw => by obtain ⟨hS1, hS2, hS3, hS4⟩ := hSw; go_simp⟩) (by assumption) ?_
              simp only [List.getElem_toArray, List.getElem_cons_succ, List.getElem_cons_zero, Act.put, List.setIfInBounds_toArray, List.set_cons_zero, List.set_cons_succ]
              refine wpAnyH_ready (rs := [10]) (by kernel_rfl) (by simp) (AllReadyH.cons rfl (fun K hK => ?_) AllReadyH.nil)
              refine step_call2J (by rfl) 52 (fun v u W => by kernel_rfl) (.tmp 23) (.tmp 25) _ rfl rfl rfl (unhide HND9 _ hb7) ?_
              rintro e w8 ⟨rfl, hb8⟩
              refine ⟨_, rfl, ?_⟩
              refine hK.out _ _ (unhide HSS _ (Or.inl hb8)) (fun hH8 => ?_)
              clear hK K
              simp only [List.getElem_toArray, List.getElem_cons_succ, List.getElem_cons_zero, Act.put, List.setIfInBounds_toArray, List.set_cons_zero, List.set_cons_succ]
              refine wpAnyH_take (i := 11) (v := .bool false) rfl (by kernel_rfl) (by kernel_rfl) (by kernel_rfl) (fun _ _ _ h => h) (Or.inl ⟨by rfl, fun w hSw => by obtain ⟨hS1, hS2, hS3, hS4⟩ := hSw; go_simp⟩) (by assumption) ?_
              simp only [List.getElem_toArray, List.getElem_cons_succ, List.getElem_cons_zero, Act.put, List.setIfInBounds_toArray, List.set_cons_zero, List.set_cons_succ]
              refine wpAnyH_take (i := 12) (v := .bool false) rfl (by kernel_rfl) (by kernel_rfl) (by kernel_rfl) (fun _ _ _ h => h) (Or.inl ⟨by rfl, fun w hSw => by obtain ⟨hS1, hS2, hS3, hS4⟩ := hSw; go_simp⟩) (by assumption) ?_
              simp only [List.getElem_toArray, List.getElem_cons_succ, List.getElem_cons_zero, Act.put, List.setIfInBounds_toArray, List.set_cons_zero, List.set_cons_succ]
              refine wpAnyH_take (i := 13) (v := .pointer (some ⟨wr.heap.size, 1, none⟩)) rfl (by kernel_rfl) (by kernel_rfl) (by kernel_rfl) (fun _ _ _ h => h) (Or.inl ⟨by rfl, fun w hSw => by obtain ⟨hS1, hS2, hS3, hS4⟩ := hSw; go_simp⟩) (by assumption) ?_
              simp only [List.getElem_toArray, List.getElem_cons_succ, List.getElem_cons_zero, Act.put, List.setIfInBounds_toArray, List.set_cons_zero, List.set_cons_succ]
              refine wpAnyH_take (i := 14) (v := .int .i64 bd) rfl (by kernel_rfl) (by kernel_rfl) (by kernel_rfl) (fun _ _ _ h => h) (Or.inl ⟨by rfl, fun w hSw => by obtain ⟨hS1, hS2, hS3, hS4⟩ := hSw; go_simp⟩) (by assumption) ?_
              simp only [List.getElem_toArray, List.getElem_cons_succ, List.getElem_cons_zero, Act.put, List.setIfInBounds_toArray, List.set_cons_zero, List.set_cons_succ]
              refine wpAnyH_ready (rs := [15]) (by kernel_rfl) (by simp) (AllReadyH.cons rfl (fun K hK => ?_) AllReadyH.nil)
              refine step_call3J (by rfl) 53 (fun v u z W => by kernel_rfl) (.tmp 30) (.const (.int .i64 1)) (.const (.int .i64 1048576)) _ rfl rfl rfl rfl (unhide HWI _) ?_
              rintro e w10 ⟨rfl, hw10⟩
              subst hw10
              refine ⟨_, rfl, ?_⟩
              refine hK.out _ _ (unhide HSS _ (Or.inl hb8)) (fun hH10 => ?_)
              clear hK K
              simp only [List.getElem_toArray, List.getElem_cons_succ, List.getElem_cons_zero, Act.put, List.setIfInBounds_toArray, List.set_cons_zero, List.set_cons_succ]
              refine wpAnyH_take (i := 16) (v := .bool false) rfl (by kernel_rfl) (by kernel_rfl) (by kernel_rfl) (fun _ _ _ h => h) (Or.inl ⟨by rfl, fun w hSw => by obtain ⟨hS1, hS2, hS3, hS4⟩ := hSw; go_simp⟩) (by assumption) ?_
              simp only [List.getElem_toArray, List.getElem_cons_succ, List.getElem_cons_zero, Act.put, List.setIfInBounds_toArray, List.set_cons_zero, List.set_cons_succ]
              refine wpAnyH_take (i := 17) (v := .bool false) rfl (by kernel_rfl) (by kernel_rfl) (by kernel_rfl) (fun _ _ _ h => h) (Or.inl ⟨by rfl, fun w hSw => by obtain ⟨hS1, hS2, hS3, hS4⟩ := hSw; go_simp⟩) (by assumption) ?_
              simp only [List.getElem_toArray, List.getElem_cons_succ, List.getElem_cons_zero, Act.put, List.setIfInBounds_toArray, List.set_cons_zero, List.set_cons_succ]
              refine wpAnyH_done (by kernel_rfl) ?_ _
              go_wp2_with fail
              have HB8 := hide (HB9.out.trans (hb8.mono HB9.out.size))
              have HX8 := hide hb8
              have HM8 := hide (HM9.out.below hb8)
              have HIN8 : Hid (∀ W2, Below w9.heap.size w9 W2 → Calls Tryz.prog 54 #[(.slice ia ins.length ic)] W2 fun e w' => e = .returned (.bool ib) ∧ Below w9.heap.size w9 w') := hide (fun W2 h => (HIN.out W2 (HB9.out.trans (h.mono HB9.out.size))).mono fun e w' ⟨h1, h2⟩ => ⟨h1, below_then h h2⟩)
              have HOU8 : Hid (∀ W2, Below w9.heap.size w9 W2 → Calls Tryz.prog 55 #[(.slice oa outs.length oc), .pointer (some ⟨w.heap.size, 0, none⟩)] W2 fun e W' => e = .returned (.bool ob) ∧ Hid ((Below w.heap.size w W' ∧ (ob = true → ∃ vm', Ma w W' w.heap.size vm' (mj ++ outs.map (·.1)))) ∧ Ch w.heap.size MaT w9 W')) := hide (fun W2 h => (HOU.out W2 vj (HM9.out.below h)).mono fun e w' ⟨h1, h2⟩ => ⟨h1, hide ⟨⟨h2.out.1, h2.out.2.1⟩, (Ch.of_below h).trans h2.out.2.2⟩⟩)
              have HS8 := hide hb8
              clear hb8
              cases ib with
              | false =>
                obtain ⟨_, _, c2, _⟩ := HSS.out w8 (Or.inl HS8.out)
                go_wp2_with fail
                refine (unhide HIN8 _ HS8.out).mono ?_
                rintro e w11 ⟨rfl, hb11⟩
                clear c2
                have HV : Hid (r = false) := hide (by rw [HR.out, HIF.out (by rw [HIT.out]; simp), Bool.and_false])
                go_wp2
                go_ret
                exact ⟨by rw [HV.out]; rfl, HB9.out.trans (hb11.mono HB9.out.size)⟩
              | true =>
                cases ob with
                | false =>
                  obtain ⟨_, _, c2, _⟩ := HSS.out w8 (Or.inl HS8.out)
                  go_wp2_with fail
                  refine (unhide HIN8 _ HS8.out).mono ?_
                  rintro e w11 ⟨rfl, hb11⟩
                  clear c2
                  obtain ⟨_, _, _, c3⟩ := HSS.out w11 (Or.inl hb11)
                  go_wp2_with fail
                  refine (unhide HOU8 _ hb11).mono ?_
                  rintro e w12 ⟨rfl, HX⟩
                  clear c3 hb11
                  have HV : Hid (r = false) := hide (by rw [HR.out, HIF.out (by rw [HIT.out]; simp), Bool.and_false])
                  go_wp2
                  go_ret
                  exact ⟨by rw [HV.out]; rfl, HX.out.1.1⟩
                | true =>
                  obtain ⟨_, _, c2, _⟩ := HSS.out w8 (Or.inl HS8.out)
                  go_wp2_with fail
                  refine (unhide HIN8 _ HS8.out).mono ?_
                  rintro e w11 ⟨rfl, hb11⟩
                  clear c2
                  obtain ⟨_, _, _, c3⟩ := HSS.out w11 (Or.inl hb11)
                  go_wp2_with fail
                  refine (unhide HOU8 _ hb11).mono ?_
                  rintro e w12 ⟨rfl, HX⟩
                  clear c3 hb11
                  go_wp2
                  go_roundw
                  case rel => exact ⟨j + 1, by go_num, by omega, hide ⟨HX.out.1.1, by rw [HIT.out, HJ.out.2.1]; rfl, by rw [HFM.out]; exact HX.out.1.2 (by simp), by rw [HFM.out, List.length_append, List.length_map]; have h1 := HML.out; have h2 := HOL.out (by simp); omega⟩⟩
                  case measure => simp [intOf]; omega
      · have hlti : ¬ (j : Int) < (ts.length : Int) := by omega
        have hltd : decide ((j : Int) < (ts.length : Int)) = false := decide_eq_false hlti
        have HV : Hid (r = true) := hide (by have := HJ.out.2.1; rw [show j = ts.length by omega, List.take_length] at this; rw [HR.out, this, decide_eq_true HN.out]; rfl)
        go_wp2
        go_ret
        exact ⟨by rw [HV.out]; rfl, HJ.out.1⟩
end Go.Proofs.YtfhfobikbfbajaaGreatDoor
