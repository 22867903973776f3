/- What RootBack answers. -/
import Derived.Test.YtbgknbjpbobebaaDoorRtL
namespace Go.Proofs.YtbgknbjpbobebaaDoor
open Go.RowKit Go.Maps

set_option maxRecDepth 100000 in
set_option maxHeartbeats 4000000 in
theorem rootBack_walk {w : World} {s : SL} (hs : s.Ok) (ht : Tab w) : Calls Tryd.prog 6 #[.agg (slV s).toArray] w fun e w' => e = .returned (.bool true) ∧ Below w.heap.size w w' := by
  have hinf := infoSof hs
  have hlen : z105.length = (slV s).length := by rw [slV_len hs]; rfl
  have hone := slV_one s
  have HMY : Hid (∀ W, Calls Tryd.prog 27 #[.agg (slV s).toArray] W fun e w' => e = .returned (.bool s.may) ∧ Below W.heap.size W w') := hide (fun W => lmay_calls hs)
  have HST : Hid (∀ W, Below w.heap.size w W → Calls Tryd.prog 28 #[] W fun e w' => e = .returned (.bool true) ∧ Below W.heap.size W w') := hide (fun W hW => started_calls18 (ht.below hW))
  by_cases hm : s.May
  · rw [(SL.may_iff s).2 hm] at HMY
    have HEN : Hid (∀ W, Below w.heap.size w W → Calls Tryd.prog 9 #[.agg (slV s).toArray] W fun e w' => ∃ u, e = .returned (.tuple #[u, .int .i64 0]) ∧ Own8 w' W.heap.size u (slL s) ∧ Below W.heap.size W w') := hide (fun W hW => senc_good hs hm (ht.below hW))
    have HDC : Hid (∀ W v, Below w.heap.size w W → IsB W v (slL s) → Calls Tryd.prog 29 #[v] W fun e w' => e = .returned (.tuple #[.agg (slV s).toArray, .int .i64 0]) ∧ Below W.heap.size W w') := hide (fun W v hW hI => by
      have := sdec_calls hI (ht.below hW)
      rw [(decSR_some (decS_sl hs hm)).1, (decSR_some (decS_sl hs hm)).2] at this
      exact this)
    have HLN := hide (slL_len hs)
    have heq : ∀ W, (binOp .eql 27 (.agg (slV s).toArray) (.agg (slV s).toArray)).run Tryd.prog W = .ok (.bool true) W := fun W => by rw [slot_eql hs hs, slEq_refl]
    have hgd := fun op x y xs ys W => slot_guard op x y xs ys W
    generalize slV s = cs1 at *
    generalize slL s = bb at *
    clear hs hm ht HST
    go_enter Tryd.func6, Tryd.ntmps6
    go_wp2_with (first
      | (refine wpList_boxJ rfl 27 (.tmp 0) rfl rfl ?_; intro w1 hA1 hb1 hs1
         have hrg := hA1.rangeJ
         have HA1 := hide hA1
         have HB1 := hide hb1
         clear hA1 hb1 hs1)
      | (refine wpList_loadJ rfl 27 (.tmp 1) rfl _ 0 rfl cs1 _ hrg Tryd.underlying27 rfl hinf ?_)
      | fail)
    refine (unhide HEN _ HB1.out).mono ?_
    rintro e w2 ⟨u, rfl, ho2, hb2⟩
    have hA2 := HA1.out.below hb2
    have hrg2 := hA2.rangeJ
    have HA2 := hide hA2
    have HB2 := hide (below_then HB1.out hb2)
    obtain ⟨ua, uc, rfl⟩ : ∃ ua uc, u = .slice ua 512 uc := by
      obtain ⟨ua, un, uc, rfl⟩ := ho2.shape
      have := ho2.isB.lenEq
      rw [HLN.out] at this
      subst this
      exact ⟨ua, uc, rfl⟩
    have HO2 := hide ho2
    clear hrg HA1 hA2 ho2 hb2 HEN
    go_wp2_with (first
      | (refine wpList_loadJ rfl 27 (.tmp 1) rfl _ 0 rfl cs1 _ hrg2 Tryd.underlying27 rfl hinf ?_)
      | fail)
    refine (unhide HMY _).mono ?_
    rintro e w3 ⟨rfl, hb3⟩
    have HA3 := hide (HA2.out.below hb3)
    have HO3 := hide (HO2.out.below hb3)
    have HB3 := hide (below_then HB2.out hb3)
    clear hb3 HA2 HO2 hrg2 HMY
    go_wp2_with fail
    refine (unhide HDC _ _ HB3.out HO3.out.isB).mono ?_
    rintro e w4 ⟨rfl, hb4⟩
    have hA4 := HA3.out.below hb4
    have HB4 := hide (below_then HB3.out hb4)
    have HX : Hid (∀ w5, Arr w5 w4.heap.size 27 cs1 → (w4.alloc (.cells z105.toArray 27)).grownBy w5 (some w4.heap.size) → w5.rangeAt w4.heap.size 0 cs1 ∧ w5.rangeAt w.heap.size 0 cs1 ∧ Below w.heap.size w w5) := hide (fun w5 hA5 hg5 => by
      have hba := jalloc_below w4 (.cells z105.toArray 27)
      have hb5 := jbelow_grown hba hg5 hba.size (Nat.le_refl _)
      exact ⟨hA5.rangeJ, (hA4.below hb5).rangeJ, below_then HB4.out hb5⟩)
    clear hb4 HA3 HO3 hA4 HDC
    go_wp2_with (first
      | (refine wpList_allocJ rfl 27 rfl infoSlo ?_)
      | (refine wpList_storeJ rfl (.tmp 5) (.tmp 28) 27 rfl rfl rfl (Arr.new w4 z105 27) hinf hlen hone ?_; intro w5 hA5 hg5
         obtain ⟨hr1, hr2, hb5⟩ := unhide HX w5 hA5 hg5
         have HB5 := hide hb5
         clear hA5 hg5 hb5 HX)
      | (refine wpList_loadOnS (by rfl) 27 (.tmp 5) rfl _ 0 rfl cs1 _ hr1 Tryd.underlying27 rfl hinf ?_)
      | (refine wpList_loadOnS (by rfl) 27 (.tmp 1) rfl _ 0 rfl cs1 _ hr2 Tryd.underlying27 rfl hinf ?_)
      | fail)
    go_ret
    exact ⟨rfl, HB5.out⟩
  · rw [SL.may_no hm] at HMY
    have HEN : Hid (∀ W, Calls Tryd.prog 9 #[.agg (slV s).toArray] W fun e w' => e = .returned (.tuple #[.slice none 0 0, .int .i64 180]) ∧ Below W.heap.size W w') := hide (fun W => senc_no hs hm)
    generalize slV s = cs1 at *
    clear hs hm ht
    go_enter Tryd.func6, Tryd.ntmps6
    go_wp2_with (first
      | (refine wpList_boxJ rfl 27 (.tmp 0) rfl rfl ?_; intro w1 hA1 hb1 hs1
         have hrg := hA1.rangeJ
         have HA1 := hide hA1
         have HB1 := hide hb1
         clear hA1 hb1 hs1)
      | (refine wpList_loadJ rfl 27 (.tmp 1) rfl _ 0 rfl cs1 _ hrg Tryd.underlying27 rfl hinf ?_)
      | fail)
    refine (unhide HEN _).mono ?_
    rintro e w2 ⟨rfl, hb2⟩
    have hrg2 := (HA1.out.below hb2).rangeJ
    have HB2 := hide (below_then HB1.out hb2)
    clear hrg HA1 hb2 HEN
    go_wp2_with (first
      | (refine wpList_loadJ rfl 27 (.tmp 1) rfl _ 0 rfl cs1 _ hrg2 Tryd.underlying27 rfl hinf ?_)
      | fail)
    refine (unhide HMY _).mono ?_
    rintro e w3 ⟨rfl, hb3⟩
    have HB3 := hide (below_then HB2.out hb3)
    clear hb3 hrg2 HMY
    go_wp2_with fail
    refine (unhide HST _ HB3.out).mono ?_
    rintro e w4 ⟨rfl, hb4⟩
    have HB4 := hide (below_then HB3.out hb4)
    clear hb4 HST
    go_wp2
    go_ret
    exact ⟨rfl, HB4.out⟩
end Go.Proofs.YtbgknbjpbobebaaDoor
