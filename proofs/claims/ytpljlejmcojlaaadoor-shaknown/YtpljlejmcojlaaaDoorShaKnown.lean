/- ShaKnown's walk. -/
import Derived.Test.YtpljlejmcojlaaaDoorShaFips
import Derived.Test.YtpljlejmcojlaaaDoorShaLong
namespace Go.Proofs.YtpljlejmcojlaaaDoor
open Go.RowKit

def agK (s : ByteArray) : Value := .agg ((keyL s 32).map (Value.int .u8)).toArray
theorem agK_eql (s : ByteArray) (w : World) : (binOp .eql 28 (agK s) (agK s)).run Tryd.prog w = .ok (.bool true) w := keyL_eql s w
theorem agK_guard (op : BinOp) (x y : Operand) (s t : ByteArray) (w : World) : (eqGuard op 28 x y (agK s) (agK t)).run Tryd.prog w = .ok () w := key_guard op x y _ _ w
theorem k1V : keyV [] = agK hx1 := by unfold keyV agK; rw [kn1]
theorem k2V : keyV [97, 98, 99] = agK hx2 := by unfold keyV agK; rw [kn2]
theorem k3V : keyV longL = agK hx3 := by unfold keyV agK; rw [kn3]
theorem k4V : keyV (List.replicate 1000000 97) = agK hx4 := by unfold keyV agK; rw [mill_sha, kn4]

set_option maxRecDepth 100000 in
set_option maxHeartbeats 4000000 in
theorem known_walk {w : World} (hT : Tabs w) : Calls Tryd.prog 7 #[] w fun e w' => e = .returned (.bool true) ∧ Below w.heap.size w w' := by
  have HT := hide hT
  have hKl := hT.ltK
  have hSl := hT.ltS
  have hcv := conv_lit
  have hke := agK_eql
  have hkg := agK_guard
  have HL1 : Hid (∀ W : World, IsB (W.alloc (.cells #[.int .u8 97] 5)) (.slice (some ⟨W.heap.size, 0, none⟩) 1 1) [97]) := fun W => isB_lit W [97] (by decide) (by decide)
  clear hT
  go_enter Tryd.func7, Tryd.ntmps7
  go_wp2
  go_loopw [1, 2] (fun a i wr => ∃ k : Nat, k ≤ 1000 ∧ i = .int .i64 (k : Int) ∧ Own8 wr w.heap.size a (List.replicate k 97) ∧ Below w.heap.size w wr) (fun _ i _ => 1000 - (intOf i).toNat)
  case atStart => exact ⟨0, by omega, rfl, Own8.nil _ _, Below.refl _ _⟩
  case round =>
    obtain ⟨k, hk, rfl, hO, hx⟩ := hrel
    have hsz := hx.size
    by_cases hlt : k < 1000
    · go_wp2_with (at_builtin; refine wpList_appB rfl (.tmp 10) (.tmp 11) rfl rfl (hO.below (lit_below _ _)) rfl (unhide HL1 wr) (by simp; omega) (by simp; omega) ?_; intro v3 w3 hO3 hg3; have hB3 := (hx.alloc hsz (.cells #[.int .u8 97] 5)).grown hg3 (by simp; omega) (fun k hk => (hO.1.lt k hk).1); clear hg3)
      go_roundw
      case rel => exact ⟨k + 1, by omega, by go_num, by rw [List.replicate_succ']; exact hO3, hB3⟩
      case measure => simp [intOf]; omega
    · have hke2 : k = 1000 := by omega
      rw [hke2] at hO
      obtain ⟨a, n, c, rfl⟩ := hO.shape
      have hA := hO.isB
      have HA := hide hA
      have hbl := fun hp => hA.blockLt hp
      have HBL := hide hbl
      have HLN := hide hA.lenEq
      have hT1 := (unhide HT).below hx
      clear hke2 hO hA hbl
      go_wp2_with (go_at_call 15; refine (new_calls hT1.s).mono ?_; rintro e w1 ⟨rfl, hH1, hb1⟩)
      have HX := hide hx
      have HT1 := hide hT1
      clear hx hT1
      generalize wr = w0 at *
      go_loopw [4] (fun i wr => ∃ k : Nat, k ≤ 1000 ∧ i = .int .i64 (k : Int) ∧ IsHash wr w0.heap.size (List.replicate (1000 * k) 97) ∧ Below w0.heap.size w0 wr) (fun i _ => 1000 - (intOf i).toNat)
      case atStart => exact ⟨0, by omega, rfl, hH1, hb1⟩
      case round =>
        clear hH1 hb1
        obtain ⟨j, hj, rfl, hH, hx⟩ := hrel
        have hxz := hx.size
        by_cases hjt : j < 1000
        · have HW : Hid (Calls Tryd.prog 19 #[.pointer (some ⟨w0.heap.size, 0, none⟩), .slice a n c] wr fun e w' => (∃ v, e = .returned v) ∧ IsHash w' w0.heap.size (List.replicate (1000 * (j + 1)) 97) ∧ wr.grownBy w' (some w0.heap.size)) := by
            have h1 := write_calls hH ((unhide HA).below hx) (fun hp ad had => by have := unhide HBL hp ad had; omega) (by simp; omega) ((unhide HT1).k.below hx) (by have := (unhide HT1).ltK; omega)
            rw [List.replicate_append_replicate] at h1
            exact h1
          go_wp2_with (go_at_call 19; refine (unhide HW).mono ?_; rintro e w6 ⟨⟨v6, rfl⟩, hH6, hg6⟩)
          exact ⟨⟨j + 1, by omega, by go_num, hH6, hx.grown hg6 hxz (fun j hj => by injection hj with hj; omega)⟩, by simp [intOf]; omega⟩
        · have hje : j = 1000 := by omega
          have hH' : IsHash wr w0.heap.size (List.replicate 1000000 97) := by
            rw [hje] at hH
            exact hH
          have HH := hide hH'
          have hTr := (unhide HT1).below hx
          have hSN : Calls Tryd.prog 11 #[.slice none 0 0] wr fun e w' => e = .returned (agK hx1) ∧ Below wr.heap.size wr w' := by
            have := sums_none none 0 wr hTr.k hTr.s
            rw [k1V] at this
            exact this
          have HSN := hide hSN
          have HTR := hide hTr
          have HHX : Hid (∀ (s : ByteArray) (W : World), s.size = 64 → Calls Tryd.prog 23 #[.string s] W fun e w' => e = .returned (agK s) ∧ Below W.heap.size W w') := fun s W hs => hexkey_calls s hs W
          clear hje hH hH' hTr hSN
          go_wp2_with fail
          refine (unhide HSN).mono ?_
          rintro e w2 ⟨rfl, hb2⟩
          go_wp2_with fail
          refine (unhide HHX hx1 w2 (by decide)).mono ?_
          rintro e w3 ⟨rfl, hb3⟩
          have hb3' := below_then hb2 hb3
          go_wp2_with fail
          have hT3 := (unhide HTR).below hb3'
          have hS2 : Calls Tryd.prog 11 #[.slice (some ⟨w3.heap.size + 1, 0, none⟩) 1 1] ((w3.alloc (.cells #[.int .u8 97, .int .u8 98, .int .u8 99] 5 (3, 4))).alloc (.cells #[.slice (some ⟨w3.heap.size, 0, none⟩) 3 3] 26)) fun e w' => e = .returned (agK hx2) ∧ Below w3.heap.size w3 w' := by
            have := sum_new (W := w3) [97, 98, 99] (3, 4) rfl (n := 3) rfl (by decide) (by decide) hT3
            rw [k2V] at this
            exact this
          refine hS2.mono ?_
          rintro e w4 ⟨rfl, hb4⟩
          have hb4' := below_then hb3' hb4
          clear hS2 hT3
          go_wp2_with fail
          refine (unhide HHX hx2 w4 (by decide)).mono ?_
          rintro e w5 ⟨rfl, hb5⟩
          have hb5' := below_then hb4' hb5
          obtain ⟨cL, NL, hrun, hIL, hNz, hbL⟩ := str_bytes longS longL (by decide) (by decide) w5
          have hs56 : longS.size = 56 := by decide
          rw [hs56] at hrun hIL
          unfold longS at hrun
          have hbL' := below_then hb5' hbL
          have hTL := (unhide HTR).below hbL'
          have hS3 : Calls Tryd.prog 11 #[.slice (some ⟨NL.heap.size, 0, none⟩) 1 1] (NL.alloc (.cells #[.slice (some ⟨w5.heap.size, 0, none⟩) 56 cL] 26)) fun e w' => e = .returned (agK hx3) ∧ Below NL.heap.size NL w' := by
            have hT2 := hTL.below (lit_below NL (.cells #[.slice (some ⟨w5.heap.size, 0, none⟩) 56 cL] 26))
            refine (sums_calls (isBB_one hIL) (by decide) hT2.k hT2.s).mono ?_
            rintro e w' ⟨rfl, h2⟩
            refine ⟨?_, below_alloc h2⟩
            rw [← k3V]
            simp
          have HS3 := hide hS3
          have HRUN := hide hrun
          clear hS3 hTL hNz hIL hs56
          go_wp2_with fail
          refine (unhide HS3).mono ?_
          rintro e w6 ⟨rfl, hb6⟩
          have hb6' := below_then hbL' hb6
          clear hrun
          go_wp2_with fail
          refine (unhide HHX hx3 w6 (by decide)).mono ?_
          rintro e w7 ⟨rfl, hb7⟩
          have hb7' := below_then hb6' hb7
          have hK7 := keys_calls ((unhide HH).below hb7') ((unhide HTR).k.below hb7')
          rw [k4V] at hK7
          have HK7 := hide hK7
          clear hK7
          go_wp2_with fail
          refine (unhide HK7).mono ?_
          rintro e w8 ⟨rfl, hb8⟩
          have hb8' := below_then hb7' hb8
          go_wp2_with fail
          refine (unhide HHX hx4 w8 (by decide)).mono ?_
          rintro e w9 ⟨rfl, hb9⟩
          have hb9' := below_then hb8' hb9
          go_wp2
          go_ret
          exact ⟨rfl, below_then (unhide HX) (below_then hx hb9')⟩
end Go.Proofs.YtpljlejmcojlaaaDoor
