/- What RootCodes answers. -/
import Derived.Test.YtbgknbjpbobebaaDoorRtU
import Derived.Test.YtbgknbjpbobebaaDoorDkC
namespace Go.Proofs.YtbgknbjpbobebaaDoor
open Go.RowKit Go.Maps

set_option maxRecDepth 100000 in
set_option maxHeartbeats 2000000 in
theorem decodes_calls {w : World} {v : Value} {b : List Int} (h : IsB w v b) (hl : b.length ≤ 140737488355328) (ht : Tab w) : Calls Tryd.prog 11 #[v] w fun e w' => e = .returned (.bool true) ∧ Below w.heap.size w w' := by
  have hok := decSR_ok (show By8 b from h.mem)
  have HCP := hide (copy_calls h hl)
  have HDP : Hid (∀ W u, Below w.heap.size w W → IsB W u b → Calls Tryd.prog 29 #[u] W fun e w' => e = .returned (.tuple #[.agg (slV (decSR b)).toArray, .int .i64 (decSE b)]) ∧ Below W.heap.size W w') := hide (fun W u hW hI => sdec_calls hI (ht.below hW))
  have HDR : Hid (∀ W, Below w.heap.size w W → Calls Tryd.prog 43 #[v] W fun e w' => e = .returned (.tuple #[.agg (slV (decSR b)).toArray, .int .i64 (decSE b)]) ∧ Below W.heap.size W w') := hide (fun W hW => rdecS_calls (h.below hW))
  have hinf := infoSof hok
  have hlen : z105.length = (slV (decSR b)).length := by rw [slV_len hok]; rfl
  have hone := slV_one (decSR b)
  have heq : ∀ W, (binOp .eql 27 (.agg (slV (decSR b)).toArray) (.agg (slV (decSR b)).toArray)).run Tryd.prog W = .ok (.bool true) W := fun W => by rw [slot_eql hok hok, slEq_refl]
  have hgd := fun op x y xs ys W => slot_guard op x y xs ys W
  obtain ⟨va, vn, vc, rfl⟩ := h.shape
  have hcase : decSE b = 0 ∨ decSE b = 180 := by unfold decSE; split <;> simp
  generalize slV (decSR b) = cs1 at *
  generalize decSE b = eR at *
  clear h ht hok hl
  go_enter Tryd.func11, Tryd.ntmps11
  go_wp2_with fail
  refine (unhide HCP).mono ?_
  rintro e w1 ⟨u, rfl, ho1, hb1⟩
  obtain ⟨ua, un, uc, rfl⟩ := ho1.shape
  have HI1 := hide ho1.isB
  have HB1 := hide hb1
  clear HCP ho1 hb1
  go_wp2_with fail
  refine (unhide HDP _ _ HB1.out HI1.out).mono ?_
  rintro e w2 ⟨rfl, hb2⟩
  have hbw2 := below_then HB1.out hb2
  have HX : Hid (∀ w3, Arr w3 w2.heap.size 27 cs1 → (w2.alloc (.cells z105.toArray 27)).grownBy w3 (some w2.heap.size) → Below w.heap.size w w3) := hide (fun w3 _ hg3 => by
    have hba := jalloc_below w2 (.cells z105.toArray 27)
    exact below_then hbw2 (jbelow_grown hba hg3 hba.size (Nat.le_refl _)))
  clear HDP hb2 hbw2 HI1
  go_wp2_with (first
    | (refine wpList_allocJ rfl 27 rfl infoSlo ?_)
    | (refine wpList_storeJ rfl (.tmp 3) (.tmp 11) 27 rfl rfl rfl (Arr.new w2 z105 27) hinf hlen hone ?_; intro w3 hA3 hg3
       have HB3 := hide (unhide HX w3 hA3 hg3)
       have HA3 := hide hA3
       clear hA3 hg3 HX)
    | fail)
  generalize w2.heap.size = g3 at *
  refine (unhide HDR _ HB3.out).mono ?_
  rintro e w4 ⟨rfl, hb4⟩
  have hA4 := HA3.out.below hb4
  have HB4 := hide (below_then HB3.out hb4)
  have HX : Hid (∀ w5, Arr w5 w4.heap.size 27 cs1 → (w4.alloc (.cells z105.toArray 27)).grownBy w5 (some w4.heap.size) → w5.rangeAt w4.heap.size 0 cs1 ∧ w5.rangeAt g3 0 cs1 ∧ Below w.heap.size w w5) := hide (fun w5 hA5 hg5 => by
    have hba := jalloc_below w4 (.cells z105.toArray 27)
    have hb5 := jbelow_grown hba hg5 hba.size (Nat.le_refl _)
    exact ⟨hA5.rangeJ, (hA4.below hb5).rangeJ, below_then HB4.out hb5⟩)
  clear HDR hb4 HA3 hA4
  rcases hcase with rfl | rfl
  · go_wp2_with (first
      | (refine wpList_allocJ rfl 27 rfl infoSlo ?_)
      | (refine wpList_storeJ rfl (.tmp 5) (.tmp 16) 27 rfl rfl rfl (Arr.new w4 z105 27) hinf hlen hone ?_; intro w5 hA5 hg5
         obtain ⟨hr1, hr2, hb5⟩ := unhide HX w5 hA5 hg5
         have HB5 := hide hb5
         clear hA5 hg5 hb5 HX)
      | (refine wpList_loadOnS (by rfl) 27 (.tmp 3) rfl _ 0 rfl cs1 _ hr2 Tryd.underlying27 rfl hinf ?_)
      | (refine wpList_loadOnS (by rfl) 27 (.tmp 5) rfl _ 0 rfl cs1 _ hr1 Tryd.underlying27 rfl hinf ?_)
      | fail)
    go_ret
    exact ⟨rfl, HB5.out⟩
  · go_wp2_with (first
      | (refine wpList_allocJ rfl 27 rfl infoSlo ?_)
      | (refine wpList_storeJ rfl (.tmp 5) (.tmp 16) 27 rfl rfl rfl (Arr.new w4 z105 27) hinf hlen hone ?_; intro w5 hA5 hg5
         obtain ⟨hr1, hr2, hb5⟩ := unhide HX w5 hA5 hg5
         have HB5 := hide hb5
         clear hA5 hg5 hb5 HX)
      | (refine wpList_loadOnS (by rfl) 27 (.tmp 3) rfl _ 0 rfl cs1 _ hr2 Tryd.underlying27 rfl hinf ?_)
      | (refine wpList_loadOnS (by rfl) 27 (.tmp 5) rfl _ 0 rfl cs1 _ hr1 Tryd.underlying27 rfl hinf ?_)
      | fail)
    go_ret
    exact ⟨rfl, HB5.out⟩
set_option maxRecDepth 100000 in
set_option maxHeartbeats 4000000 in
theorem rootCodes_walk {w : World} {s : SL} {va : Option Addr} {vn vc : Nat} {b : List Int} (hs : s.Ok) (h : IsB w (.slice va vn vc) b) (hl : b.length ≤ 140737488355328) (ht : Tab w) : Calls Tryd.prog 3 #[.agg (slV s).toArray, .slice va vn vc] w fun e w' => e = .returned (.bool true) ∧ Below w.heap.size w w' := by
  have hinf := infoSof hs
  have HDB : Hid (∀ W, Below w.heap.size w W → Calls Tryd.prog 11 #[.slice va vn vc] W fun e w' => e = .returned (.bool true) ∧ Below W.heap.size W w') := hide (fun W hW => decodes_calls (h.below hW) hl (ht.below hW))
  by_cases hm : s.May
  · have HEN : Hid (∀ W, Below w.heap.size w W → Calls Tryd.prog 9 #[.agg (slV s).toArray] W fun e w' => ∃ u, e = .returned (.tuple #[u, .int .i64 0]) ∧ Own8 w' W.heap.size u (slL s) ∧ Below W.heap.size W w') := hide (fun W hW => senc_good hs hm (ht.below hW))
    have HRN : Hid (∀ W : World, Calls Tryd.prog 10 #[.agg (slV s).toArray] W fun e w' => ∃ u, e = .returned (.tuple #[u, .int .i64 0]) ∧ Own8 w' W.heap.size u (slL s) ∧ Below W.heap.size W w') := hide (fun W => renc_good hs hm)
    have HDL : Hid (∀ W u, Below w.heap.size w W → IsB W u (slL s) → Calls Tryd.prog 11 #[u] W fun e w' => e = .returned (.bool true) ∧ Below W.heap.size W w') := hide (fun W u hW hI => decodes_calls hI (by rw [slL_len hs]; decide) (ht.below hW))
    have he : ((mkS (slL s)).toList == (mkS (slL s)).toList) = true := beq_self_eq_true _
    generalize slV s = cs1 at *
    generalize slL s = bb at *
    clear hs h hl ht hm
    go_enter Tryd.func3, Tryd.ntmps3
    go_wp2_with (first
      | (refine wpList_boxJ rfl 27 (.tmp 0) rfl rfl ?_; intro w1 hA1 hb1 hs1
         have hrg := hA1.rangeJ
         have HA1 := hide hA1
         have HB1 := hide hb1
         clear hA1 hb1 hs1)
      | (refine wpList_loadJ rfl 27 (.tmp 2) rfl _ 0 rfl cs1 _ hrg Tryd.underlying27 rfl hinf ?_)
      | fail)
    refine (unhide HEN _ HB1.out).mono ?_
    rintro e w2 ⟨u, rfl, ho2, hb2⟩
    have hrg2 := (HA1.out.below hb2).rangeJ
    have HB2 := hide (below_then HB1.out hb2)
    obtain ⟨ua, un, uc, rfl⟩ := ho2.shape
    have HO2 := hide ho2
    clear hrg HA1 ho2 hb2 HEN
    go_wp2_with (first
      | (refine wpList_loadJ rfl 27 (.tmp 2) rfl _ 0 rfl cs1 _ hrg2 Tryd.underlying27 rfl hinf ?_)
      | fail)
    refine (unhide HRN _).mono ?_
    rintro e w3 ⟨u3, rfl, ho3, hb3⟩
    have HB3 := hide (below_then HB2.out hb3)
    have c1 := conv_isB (HO2.out.below hb3).isB
    have c2 := conv_isB ho3.isB
    obtain ⟨ub, um, ud, rfl⟩ := ho3.shape
    have HI3 := hide ho3.isB
    generalize mkS bb = ms at *
    clear hrg2 HO2 ho3 hb3 HRN
    go_wp2_with fail
    refine (unhide HDB _ HB3.out).mono ?_
    rintro e w4 ⟨rfl, hb4⟩
    have HB4 := hide (below_then HB3.out hb4)
    have HI4 := hide (HI3.out.below hb4)
    clear hb4 HDB HI3 c1 c2
    go_wp2_with fail
    refine (unhide HDL _ _ HB4.out HI4.out).mono ?_
    rintro e w5 ⟨rfl, hb5⟩
    have HB5 := hide (below_then HB4.out hb5)
    clear hb5 HDL HI4
    go_wp2
    go_ret
    exact ⟨rfl, HB5.out⟩
  · have HEN : Hid (∀ W, Calls Tryd.prog 9 #[.agg (slV s).toArray] W fun e w' => e = .returned (.tuple #[.slice none 0 0, .int .i64 180]) ∧ Below W.heap.size W w') := hide (fun W => senc_no hs hm)
    have HRN : Hid (∀ W, Calls Tryd.prog 10 #[.agg (slV s).toArray] W fun e w' => e = .returned (.tuple #[.slice none 0 0, .int .i64 180]) ∧ Below W.heap.size W w') := hide (fun W => renc_no hs hm)
    have he : ((mkS []).toList == (mkS []).toList) = true := beq_self_eq_true _
    generalize slV s = cs1 at *
    clear hs h hl ht hm
    go_enter Tryd.func3, Tryd.ntmps3
    go_wp2_with (first
      | (refine wpList_boxJ rfl 27 (.tmp 0) rfl rfl ?_; intro w1 hA1 hb1 hs1
         have hrg := hA1.rangeJ
         have HA1 := hide hA1
         have HB1 := hide hb1
         clear hA1 hb1 hs1)
      | (refine wpList_loadJ rfl 27 (.tmp 2) rfl _ 0 rfl cs1 _ hrg Tryd.underlying27 rfl hinf ?_)
      | fail)
    refine (unhide HEN _).mono ?_
    rintro e w2 ⟨rfl, hb2⟩
    have hrg2 := (HA1.out.below hb2).rangeJ
    have HB2 := hide (below_then HB1.out hb2)
    clear hrg HA1 hb2 HEN
    go_wp2_with (first
      | (refine wpList_loadJ rfl 27 (.tmp 2) rfl _ 0 rfl cs1 _ hrg2 Tryd.underlying27 rfl hinf ?_)
      | fail)
    refine (unhide HRN _).mono ?_
    rintro e w3 ⟨rfl, hb3⟩
    have HB3 := hide (below_then HB2.out hb3)
    have c1 := conv_isB (Own8.nil w3 0).isB
    generalize mkS [] = ms at *
    clear hrg2 hb3 HRN
    go_wp2_with fail
    refine (unhide HDB _ HB3.out).mono ?_
    rintro e w4 ⟨rfl, hb4⟩
    have HB4 := hide (below_then HB3.out hb4)
    clear hb4 HDB c1
    go_wp2
    go_ret
    exact ⟨rfl, HB4.out⟩
end Go.Proofs.YtbgknbjpbobebaaDoor
