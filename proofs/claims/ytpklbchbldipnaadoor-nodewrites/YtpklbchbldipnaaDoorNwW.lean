/- NodeWrites: the walk. -/
import Derived.Test.YtpklbchbldipnaaDoorNAl
namespace Go.Proofs.YtpklbchbldipnaaDoor
open Go.RowKit Go.Maps Classical

set_option maxRecDepth 100000 in
set_option maxHeartbeats 4000000 in
theorem nodeWrites_walk {w : World} {v : Value} {l0 : List Ent} (h : IsEn w v l0) (hT : Tabs w) : Calls Tryd.prog 3 #[v] w fun e w' => e = .returned (.bool true) ∧ Below w.heap.size w w' := by
  obtain ⟨a, c, rfl⟩ := h.shape
  have HTL := hide (ntold_calls hT)
  have HH := hide h
  have HT := hide hT
  generalize l0.length = n at *
  clear h hT
  go_enter Tryd.func3, Tryd.ntmps3
  go_wp2_with fail
  refine (unhide HTL).mono ?_
  rintro e w1 ⟨rfl, hb1⟩
  have HCU := hide (cutEn_calls (HH.out.below hb1))
  have HT1 : Hid (∀ W, Below w1.heap.size w1 W → Tabs W) := fun W hW => HT.out.below (hb1.trans (hW.mono hb1.size))
  go_wp2_with fail
  refine (unhide HCU).mono ?_
  rintro e w2 ⟨⟨m, rfl, hm, hc2⟩, hw2⟩
  obtain rfl := hw2.symm
  generalize l0.take 1100 = l at *
  have HLA := hide (elaid_calls hc2 hm)
  have HI : Hid (∀ W, Below w1.heap.size w1 W → IsEn W (.slice a m c) l) := fun W hW => hc2.below hW
  clear hw2 hc2 HCU HTL HH HT
  go_wp2_with fail
  refine (unhide HLA).mono ?_
  rintro e w3 ⟨g, c3, rfl, hld, hb3⟩
  have HL : Hid (∀ W, Below w3.heap.size w3 W → ELaid W w1.heap.size g m c3 l) := fun W hW => hld.below hW
  have HCH := hide (check_calls hld.isEn)
  clear HLA hld
  obtain ⟨ck, hck⟩ : ∃ ck, chkL nbL l = ck := ⟨_, rfl⟩
  have hkl := keyR_len l
  have hke := key_eql (keyR l) (keyR l) hkl hkl
  rw [decide_eq_true rfl] at hke
  have hkg := key_guard
  have HIK := hide (infoKof hkl)
  have HZK : Hid (z32.length = ((keyR l).map (Value.int .u8)).length) := by show _ = _; rw [z32_len, List.length_map, hkl]
  have HCKE := hide hck
  rw [hck] at HCH
  clear hkl hck
  go_wp2_with fail
  refine (unhide HCH).mono ?_
  rintro e w4 ⟨rfl, hb4⟩
  have HEN := hide (encode_calls (unhide HL w4 hb4).isEn)
  rw [HCKE.out] at HEN
  go_wp2_with fail
  refine (unhide HEN).mono ?_
  rintro e w5 ⟨u5, rfl, ho5, hb5⟩
  obtain ⟨a5, n5, c5, hu5⟩ := ho5.shape
  subst hu5
  have hb35 := hb4.trans (hb5.mono hb4.size)
  have hb15 := hb3.trans (hb35.mono hb3.size)
  have HKE := hide (keyOf_calls (unhide HL w5 hb35).isEn (unhide HT1 w5 hb15))
  rw [HCKE.out] at HKE
  have HI5 : Hid (∀ W, Below w5.heap.size w5 W → IsB W (.slice a5 n5 c5) (encR l)) := fun W hW => ho5.isB.below hW
  have HB35 := hide hb35
  have HB15 := hide hb15
  clear HCH HEN ho5 hb4 hb5 hb35 hb15
  go_wp2_with (first
    | (go_at_call 14; refine (unhide HKE).mono ?_; rintro e w6 ⟨rfl, hb6⟩)
    | (refine wpList_allocZ rfl 31 rfl infoK ?_)
    | (refine wpList_storeArr2 (cs' := (keyR l).map (Value.int .u8)) rfl (.tmp 7) (.tmp 29) 31 rfl rfl rfl (Arr.new w6 z32 31) HIK.out HZK.out (u8_one _) ?_; intro w7 hA7 hw7))
  have hb57 : Below w5.heap.size w5 w7 := hb6.trans ((hw7.below _ _ (lit_blw _ _) (Nat.le_refl _)).mono hb6.size)
  have hb17 := HB15.out.trans (hb57.mono HB15.out.size)
  have HRE := hide (rencode_calls (unhide HI w7 hb17))
  rw [HCKE.out] at HRE
  obtain ⟨g7, hg7⟩ : ∃ g7, w6.heap.size = g7 := ⟨_, rfl⟩
  rw [hg7] at hA7
  rw [hg7]
  have HA7 : Hid (∀ W, Below w7.heap.size w7 W → Arr W g7 31 ((keyR l).map (Value.int .u8))) := fun W hW => hA7.below hW
  have HB57 := hide hb57
  have HB17 := hide hb17
  clear HKE hw7 hb6 hg7 hA7 hb57 hb17
  go_wp2_with fail
  refine (unhide HRE).mono ?_
  rintro e w8 ⟨u8, rfl, ho8, hb8⟩
  obtain ⟨a8, n8, c8, hu8⟩ := ho8.shape
  subst hu8
  have hb18 := HB17.out.trans (hb8.mono HB17.out.size)
  have HI8 : Hid (∀ W, Below w8.heap.size w8 W → IsB W (.slice a8 n8 c8) (encR l)) := fun W hW => ho8.isB.below hW
  have HKR := hide (rkeyOf_calls (unhide HI w8 hb18))
  rw [HCKE.out] at HKR
  have HB8 := hide hb8
  clear HRE ho8 hb8 hb18
  go_wp2_with (first
    | (go_at_call 16; refine (unhide HKR).mono ?_; rintro e w9 ⟨rfl, hb9⟩)
    | (refine wpList_allocZ rfl 31 rfl infoK ?_)
    | (refine wpList_storeArr2 (cs' := (keyR l).map (Value.int .u8)) rfl (.tmp 11) (.tmp 39) 31 rfl rfl rfl (Arr.new w9 z32 31) HIK.out HZK.out (u8_one _) ?_; intro w10 hA10 hw10))
  have hb810 : Below w8.heap.size w8 w10 := hb9.trans ((hw10.below _ _ (lit_blw _ _) (Nat.le_refl _)).mono hb9.size)
  have hb710 := HB8.out.trans (hb810.mono HB8.out.size)
  have hb510 := HB57.out.trans (hb710.mono HB57.out.size)
  have hb310 := HB35.out.trans (hb510.mono HB35.out.size)
  have hb110 := hb3.trans (hb310.mono hb3.size)
  obtain ⟨g9, hg9⟩ : ∃ g9, w9.heap.size = g9 := ⟨_, rfl⟩
  rw [hg9] at hA10
  rw [hg9]
  have HSB := hide (same_calls (unhide HI5 w10 hb510) (unhide HI8 w10 hb810))
  have HA10 := hide hA10
  have HA710 := hide (unhide HA7 w10 hb710)
  have HL10 : Hid (∀ W, Below w10.heap.size w10 W → ELaid W w1.heap.size g m c3 l) := fun W hW => unhide HL W (hb310.trans (hW.mono hb310.size))
  have HI10 : Hid (∀ W, Below w10.heap.size w10 W → IsEn W (.slice a m c) l) := fun W hW => unhide HI W (hb110.trans (hW.mono hb110.size))
  have HB110 := hide hb110
  have HM := hide hm
  have hqq : (ck == ck) = true := by simp
  clear HKR hw10 hb9 hg9 hA10 hb810 hb710 hb510 hb310 hb110 hm
  go_wp2_with (first
    | (go_at_call 17; refine (unhide HSB).mono ?_; rintro e w11 ⟨rfl, hw11⟩; have hb11 := below_same hw11; have HIN := hide (eintact_calls (unhide HL10 w11 hb11) (unhide HI10 w11 hb11) HM.out); clear hw11)
    | (refine wpList_load_on rfl 31 (.tmp 7) rfl g7 0 rfl ((keyR l).map (Value.int .u8)) _ (HA710.out.below hb11).range Tryd.underlying31 rfl HIK.out ?_)
    | (refine wpList_load_on rfl 31 (.tmp 11) rfl g9 0 rfl ((keyR l).map (Value.int .u8)) _ (HA10.out.below hb11).range Tryd.underlying31 rfl HIK.out ?_)
    | (go_at_call 18; refine (unhide HIN).mono ?_; rintro e w12 ⟨rfl, hb12⟩))
  go_ret
  refine ⟨rfl, ?_⟩
  have h1 := HB110.out.trans (hb11.mono HB110.out.size)
  have h2 := h1.trans (hb12.mono h1.size)
  exact hb1.trans (h2.mono hb1.size)
end Go.Proofs.YtpklbchbldipnaaDoor
