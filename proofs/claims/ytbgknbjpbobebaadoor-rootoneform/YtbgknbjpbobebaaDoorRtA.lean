/- What RootOneForm answers. -/
import Derived.Test.YtbgknbjpbobebaaDoorKM
namespace Go.Proofs.YtbgknbjpbobebaaDoor
open Go.RowKit Go.Maps

set_option maxRecDepth 100000 in
set_option maxHeartbeats 4000000 in
theorem rootOneForm_walk {w : World} {va : Option Addr} {vn vc : Nat} {b : List Int} (h : IsB w (.slice va vn vc) b) (ht : Tab w) : Calls Tryd.prog 7 #[.slice va vn vc] w fun e w' => e = .returned (.bool true) ∧ Below w.heap.size w w' := by
  have hby : By8 b := h.mem
  have HST : Hid (∀ W, Below w.heap.size w W → Calls Tryd.prog 28 #[] W fun e w' => e = .returned (.bool true) ∧ Below W.heap.size W w') := hide (fun W hW => started_calls18 (ht.below hW))
  have HDC := hide (sdec_calls h ht)
  cases hd : decS b with
  | none =>
    rw [(decSR_none hd).1, (decSR_none hd).2] at HDC
    have hinf := infoSof SL.nul_ok
    have hlen : z105.length = (slV SL.nul).length := by rw [slV_len SL.nul_ok]; rfl
    have hone := slV_one SL.nul
    have heq : ∀ W, (binOp .eql 27 (.agg (slV SL.nul).toArray) (.agg (slV SL.nul).toArray)).run Tryd.prog W = .ok (.bool true) W := fun W => by rw [slot_eql SL.nul_ok SL.nul_ok, slEq_refl]
    have hgd := fun op x y xs ys W => slot_guard op x y xs ys W
    have HBL := hide bldS0
    generalize slV SL.nul = cs1 at *
    clear h ht hby hd
    go_enter Tryd.func7, Tryd.ntmps7
    go_wp2_with fail
    refine (unhide HDC).mono ?_
    rintro e w2 ⟨rfl, hb2⟩
    have HX : Hid (∀ w5, Arr w5 w2.heap.size 27 cs1 → (w2.alloc (.cells z105.toArray 27)).grownBy w5 (some w2.heap.size) → w5.rangeAt w2.heap.size 0 cs1 ∧ Below w.heap.size w w5) := hide (fun w5 hA5 hg5 => by
      have hba := jalloc_below w2 (.cells z105.toArray 27)
      have hb5 := jbelow_grown hba hg5 hba.size (Nat.le_refl _)
      exact ⟨hA5.rangeJ, below_then hb2 hb5⟩)
    clear HDC hb2
    go_wp2_with (first
      | (refine wpList_allocJ rfl 27 rfl infoSlo ?_)
      | (refine wpList_storeJ rfl (.tmp 3) (.tmp 10) 27 rfl rfl rfl (Arr.new w2 z105 27) hinf hlen hone ?_; intro w5 hA5 hg5
         obtain ⟨hr1, hb5⟩ := unhide HX w5 hA5 hg5
         have HB5 := hide hb5
         clear hA5 hg5 hb5 HX)
      | (refine wpList_loadJ rfl 27 (.tmp 3) rfl _ 0 rfl cs1 _ hr1 Tryd.underlying27 rfl hinf ?_)
      | (refine wpList_bldJ rfl 27 rfl HBL.out ?_)
      | fail)
    refine (unhide HST _ HB5.out).mono ?_
    rintro e w4 ⟨rfl, hb4⟩
    have HB4 := hide (below_then HB5.out hb4)
    clear hb4 HST
    go_wp2
    go_ret
    exact ⟨rfl, HB4.out⟩
  | some s =>
    obtain ⟨h1, h2, h3, h4⟩ := decS_some hd
    have hs := decS_ok hby hd
    rw [(decSR_some hd).1, (decSR_some hd).2] at HDC
    have hinf := infoSof hs
    have hlen : z105.length = (slV s).length := by rw [slV_len hs]; rfl
    have hone := slV_one s
    have HEN : Hid (∀ W, Below w.heap.size w W → Calls Tryd.prog 9 #[.agg (slV s).toArray] W fun e w' => ∃ u, e = .returned (.tuple #[u, .int .i64 0]) ∧ Own8 w' W.heap.size u b ∧ Below W.heap.size W w') := hide (fun W hW => by
      have := senc_good hs h3 (ht.below hW)
      rw [h4] at this
      exact this)
    have HIS : Hid (∀ W, Below w.heap.size w W → IsB W (.slice va vn vc) b) := hide (fun W hW => h.below hW)
    have he : ((mkS b).toList == (mkS b).toList) = true := beq_self_eq_true _
    have he2 : (mkS b == mkS b) = true := by rw [beq_toListBytes]; exact he
    generalize slV s = cs1 at *
    clear h ht hby hd hs h1 h2 h3 h4 HST
    go_enter Tryd.func7, Tryd.ntmps7
    go_wp2_with fail
    refine (unhide HDC).mono ?_
    rintro e w2 ⟨rfl, hb2⟩
    have HX : Hid (∀ w5, Arr w5 w2.heap.size 27 cs1 → (w2.alloc (.cells z105.toArray 27)).grownBy w5 (some w2.heap.size) → w5.rangeAt w2.heap.size 0 cs1 ∧ Below w.heap.size w w5) := hide (fun w5 hA5 hg5 => by
      have hba := jalloc_below w2 (.cells z105.toArray 27)
      have hb5 := jbelow_grown hba hg5 hba.size (Nat.le_refl _)
      exact ⟨hA5.rangeJ, below_then hb2 hb5⟩)
    clear HDC hb2
    go_wp2_with (first
      | (refine wpList_allocJ rfl 27 rfl infoSlo ?_)
      | (refine wpList_storeJ rfl (.tmp 3) (.tmp 10) 27 rfl rfl rfl (Arr.new w2 z105 27) hinf hlen hone ?_; intro w5 hA5 hg5
         obtain ⟨hr1, hb5⟩ := unhide HX w5 hA5 hg5
         have HB5 := hide hb5
         clear hA5 hg5 hb5 HX)
      | (refine wpList_loadJ rfl 27 (.tmp 3) rfl _ 0 rfl cs1 _ hr1 Tryd.underlying27 rfl hinf ?_)
      | fail)
    refine (unhide HEN _ HB5.out).mono ?_
    rintro e w6 ⟨u, rfl, ho6, hb6⟩
    have HB6 := hide (below_then HB5.out hb6)
    have c1 := conv_isB ho6.isB
    have c2 := conv_isB (unhide HIS _ HB6.out)
    obtain ⟨ua, un, uc, rfl⟩ := ho6.shape
    clear ho6 hb6 HEN HIS hr1
    go_wp2
    go_ret
    exact ⟨by rfl, HB6.out⟩
end Go.Proofs.YtbgknbjpbobebaaDoor
