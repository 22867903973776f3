/- Image: each sector in a block of its own. -/
import Derived.Test.YtfgjhlnaaopdeabOtI
namespace Go.Proofs.Ytfgjhlnaaopdeab
open Go.RowKit Go.Maps

set_option maxRecDepth 100000 in
set_option maxHeartbeats 2000000 in
theorem imageN_calls {w : World} {p gl gm : Nat} {V : Nat → Value} {D : AD} (h : Dk w p gl gm V D) :
    Calls Try.prog 13 #[.pointer (some ⟨p, 0, none⟩)] w fun e w' => ∃ (us : List Value) (f : Nat → Nat), e = .returned (.slice (some ⟨w.heap.size, 0, none⟩) D.la.length D.la.length) ∧ Arr w' w.heap.size 23 us ∧ us.length = D.la.length ∧ (∀ j, j < D.la.length → w.heap.size ≤ f j ∧ us[j]? = some (.slice (some ⟨f j, 0, none⟩) 512 512) ∧ Arr w' (f j) 77 (u8V (D.la.getD j zsec))) ∧ (∀ j j', j < D.la.length → j' < D.la.length → j ≠ j' → f j ≠ f j') ∧ Below w.heap.size w w' := by
  have hhi := h.ok.hi
  have hc0 := h.cells.1
  have hp : p < w.heap.size := h.blk.lt
  have hglt : gl < w.heap.size := (h.las.lt gl rfl).2
  have HD := hide h
  have HSEC := hide h.ok.las
  have HR : Hid (∀ W k, Below w.heap.size w W → k < D.la.length → W.rangeAt gl (k * 512) (u8V (D.la.getD k zsec)) ∧ (u8V (D.la.getD k zsec)).length = 512) := fun W k hW hk =>
    ⟨range_of_block (owns_range h.las h.ok.las hk) (hW.block gl hglt), by rw [u8V_len, List.getD_eq_getElem?_getD, List.getElem?_eq_getElem hk]; exact (h.ok.las _ (List.getElem_mem hk)).1⟩
  clear h
  generalize hla : D.la = la at *
  generalize hn : la.length = n at *
  have HN := hide hn
  clear hn
  go_enter Try.func13, Try.ntmps13
  obtain ⟨i1, hi1, hy0, hy1, hy2⟩ := info_parts infoBy
  go_wp2_with (at_make; refine wpList_make_full _ rfl _ _ 33 rfl w.heap.size 23 i1 (.slice none 0 0) 1 Try.underlying33 hi1 hy0 hy1 _ _ _ _ n rfl rfl rfl rfl (by rw [hy2]; omega) (by unfold maxLen; omega) (Nat.le_refl _) ?_; intro w1 hr1 hg1; have hc01 := hg1.cell hc0 (by simp))
  obtain ⟨hA1, _⟩ := arr_full hr1
  have hb1 : Below w.heap.size w w1 := ⟨hg1.os, hg1.tape, hg1.output, hg1.size, fun k hk => hg1.block k hk (by simp)⟩
  have hml : (madeCells (Value.slice none 0 0).cells (n * 1)).toList.length = n := by simp [madeCells]
  generalize (madeCells (Value.slice none 0 0).cells (n * 1)).toList = us0 at hA1 hml
  have HA1 := hide hA1
  have HB1 := hide hb1
  clear hA1 hr1 hg1 hb1 hy0
  go_loopw [17] (fun i wr => ∃ (k : Nat) (us : List Value) (f : Nat → Nat), k ≤ n ∧ i = .int .i64 (k : Int) ∧ Below w.heap.size w wr ∧ Arr wr w.heap.size 23 us ∧ us.length = n ∧ Hid ((∀ j, j < k → w.heap.size ≤ f j ∧ us[j]? = some (.slice (some ⟨f j, 0, none⟩) 512 512) ∧ Arr wr (f j) 77 (u8V (la.getD j zsec))) ∧ ∀ j j', j < k → j' < k → j ≠ j' → f j ≠ f j')) (fun i _ => n - (intOf i).toNat)
  case atStart => exact ⟨0, us0, fun _ => 0, by omega, rfl, HB1.out, HA1.out, hml, fun j hj => by omega, fun j j' hj => by omega⟩
  case round =>
    clear hml HA1 HB1 hc01
    obtain ⟨k, us, f, hk, rfl, hnx, hA, hul, HALL⟩ := hrel
    have hsz := hnx.size
    by_cases hlt : k < n
    · obtain ⟨hr, hcl⟩ := unhide HR wr k hnx hlt
      have hund := Try.underlying77
      have hinf : (Try.prog.info? 77).map (·.size) = some (u8V (la.getD k zsec)).length := by rw [hcl]; kernel_rfl
      have hzl : zcells.length = (u8V (la.getD k zsec)).length := by rw [hcl, zcells_len]
      have hone := u8V_one (la.getD k zsec)
      have hBy := fun W => hide (bytes_calls (w := W) (cs := u8V (la.getD k zsec)))
      have HA := hide hA
      have HNX := hide hnx
      have HZ := Arr.new wr zcells 77
      have hgs : w.heap.size < wr.heap.size := hA.lt
      obtain ⟨ux, hux⟩ : ∃ ux, us[k]? = some ux := ⟨_, List.getElem?_eq_getElem (by omega)⟩
      clear hA hnx hcl
      generalize hcs : u8V (la.getD k zsec) = cs at *
      have HCS := hide hcs
      clear hcs
      go_wp2_with (first
        | (refine wpList_load_mid rfl 77 (.tmp 20) rfl gl (k * 512) rfl cs (.array 512 5) hr hund rfl hinf ?_)
        | (refine wpList_allocS rfl rfl ?_)
        | (refine wpList_storeArr2 (cs' := cs) rfl (.tmp 5) (.tmp 21) 77 rfl rfl rfl HZ hinf hzl hone ?_; intro w3 hZ3 hW3)
        | (refine wpList_loadArr rfl (.tmp 5) 77 rfl rfl hZ3 hund hinf ?_)
        | (go_at_call 35; refine (unhide (hBy _)).mono ?_; rintro e w4 ⟨rfl, rfl⟩; have hsz3 : w3.heap.size = wr.heap.size + 1 := (by rw [hW3.size]; simp); have hA3 : Arr w3 w.heap.size 23 us := (HA.out.alloc _).wrote hW3 (by omega); have hc3 := hA3.cell_of hux; have hf3 := hA3.frozen k; have hlt3 := hA3.lt))
      have hbz : Below wr.heap.size wr (wr.alloc (.cells zcells.toArray 77)) := (Below.refl _ _).alloc (Nat.le_refl _) _
      have hb3 : Below wr.heap.size wr w3 := hW3.below _ _ hbz (Nat.le_refl _)
      have hb5 : Below wr.heap.size wr w3 := hb3
      have hset := hA3.set k (.slice (some ⟨wr.heap.size + 1, 0, none⟩) 512 512)
      have hnew := Arr.new (w3.setCell ⟨w.heap.size, k, none⟩ (.slice (some ⟨wr.heap.size + 1, 0, none⟩) 512 512)) cs 77
      have hs5 : (w3.setCell ⟨w.heap.size, k, none⟩ (.slice (some ⟨wr.heap.size + 1, 0, none⟩) 512 512)).heap.size = wr.heap.size + 1 := by simp; exact hsz3
      rw [hs5] at hnew
      have hsa := set_at hul hlt (.slice (some ⟨wr.heap.size + 1, 0, none⟩) 512 512)
      go_roundw
      case rel =>
        refine ⟨k + 1, us.set k (.slice (some ⟨wr.heap.size + 1, 0, none⟩) 512 512), updF f k (wr.heap.size + 1), by omega, by go_num, ?_, hset.alloc _, by rw [List.length_set]; exact hul, fun j hj => ?_, fun j j' hj hj' hne => ?_⟩
        · exact ((HNX.out.trans (hb3.mono hsz)).setCell (Nat.le_refl _) _).alloc (by rw [hs5]; omega) _
        · by_cases e : j = k
          · subst e
            rw [updF_same]
            exact ⟨by omega, by rw [hsa, if_pos rfl], by rw [HCS.out]; exact hnew⟩
          · rw [updF_other _ _ e]
            obtain ⟨hg1, hg2, hg3⟩ := HALL.out.1 j (by omega)
            have hne : f j ≠ w.heap.size := fun e2 => by
              rw [e2] at hg3
              have h1 := HA.out
              unfold Arr at h1 hg3
              rw [h1] at hg3
              simp only [Option.some.injEq, Obj.cells.injEq] at hg3
              exact absurd hg3.2.1 (by decide)
            exact ⟨hg1, by rw [hsa, if_neg e]; exact hg2, ((hg3.below hb3).other ⟨w.heap.size, k, none⟩ _ hne).alloc _⟩
        · by_cases e : j = k
          · subst e
            rw [updF_same, updF_other _ _ (show j' ≠ j by omega)]
            have := (HALL.out.1 j' (by omega)).2.2.lt
            omega
          · by_cases e2 : j' = k
            · subst e2
              rw [updF_same, updF_other _ _ e]
              have := (HALL.out.1 j (by omega)).2.2.lt
              omega
            · rw [updF_other _ _ e, updF_other _ _ e2]
              exact HALL.out.2 j j' (by omega) (by omega) hne
      case measure => simp [intOf]; omega
    · have hkn : k = n := by omega
      have HK := hide hkn
      clear hkn
      go_wp2
      go_ret
      have hkn := HK.out
      rw [hkn] at HALL
      exact ⟨us, f, rfl, hA, hul, HALL.out.1, HALL.out.2, hnx⟩
end Go.Proofs.Ytfgjhlnaaopdeab
