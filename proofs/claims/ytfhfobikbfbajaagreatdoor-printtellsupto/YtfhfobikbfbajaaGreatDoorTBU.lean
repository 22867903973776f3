/- One fingerprint, held against the document. -/
import Derived.Test.YtfhfobikbfbajaaGreatDoorTBS
import Derived.Test.YtfhfobikbfbajaaGreatDoorTBT
import Derived.Test.YtfhfobikbfbajaaGreatDoorTBO
namespace Go.Proofs.YtfhfobikbfbajaaGreatDoor
open Go.RowKit Go.Maps

theorem ins_len (l : List ByteArray) : l.length ≤ insW l := by
  induction l with
  | nil => exact Nat.zero_le _
  | cons a l ih => unfold insW at ih ⊢; rw [List.map_cons, List.sum_cons, List.length_cons]; omega
theorem own_isKs {W : World} {B g c : Nat} {ks : List (List UInt8)} (h : W.ownsRow B 32 32 (.slice (some ⟨g, 0, none⟩) (ks.length + 2) c) (ks.length + 2) (kysC ks ++ kysC [kmA, kmB])) (h32 : ∀ k ∈ ks, k.length = 32) : IsKs W (.slice (some ⟨g, 0, none⟩) ks.length c) ks := by
  obtain ⟨g', c', e, h2, h3, _, hcell⟩ := owns_shape h (by omega)
  cases e
  refine ⟨some ⟨g, 0, none⟩, c, rfl, by omega, h3, fun e => (by cases e), fun hp => ⟨g, 0, rfl, fun j hj q y hy => ?_⟩, h32⟩
  have hq : q < 32 := by have := (List.getElem?_eq_some_iff.1 hy).1; rw [kyC_len (h32 _ (by rw [List.getD_eq_getElem?_getD, List.getElem?_eq_getElem hj]; exact List.getElem_mem hj))] at this; exact this
  have hl := kysC_len h32
  rw [show 0 + j * 32 + q = j * 32 + q by omega, hcell _ (by omega), List.getElem?_append_left (by omega), kysC_at h32 hj hq, hy]
theorem fpK_int (t : Tsk) (ks : List (List UInt8)) : ∃ X : List Int, fpK t ks = X.map (Value.int .u8) ∧ X.length = 32 := by
  unfold fpK
  split
  · exact ⟨_, rfl, shaOf_lenP _⟩
  · exact ⟨List.replicate 32 0, by unfold zKy; rw [List.map_replicate], by simp⟩
set_option maxRecDepth 100000 in
set_option maxHeartbeats 4000000 in
theorem prints_calls {w : World} {D : Nat} {t : Tsk} {vi vo v : Value} {ks : List (List UInt8)} (hi : IsS w vi t.ins) (ho : IsOu w D vo t.outs) (hK : IsKs w v ks) (hs : smK t) (hl : tskW t ≤ 50000000) (hn : ks.length ≤ 1000) (hP : Pg w) (hTK : TabK w) (hTS : TabS w) :
    Calls Tryz.prog 8 #[.agg (tsC t.name t.budget vi vo).toArray, v] w fun e w' => e = .returned (.bool true) ∧ Below w.heap.size w w' := by
  have HWT : insW t.ins ≤ 50000000 ∧ ousW t.outs ≤ 50000000 := by unfold tskW at hl; omega
  have HCT := hide (fun (W2 : World) (h : Below w.heap.size w W2) => ctask_calls (nm := t.name) (bd := t.budget) (hi.below h) (ho.below h) (by have := ins_len t.ins; have := HWT.1; omega) (by have := HWT.2; omega))
  have HLD := hide (fun (W2 : World) (h : Below w.heap.size w W2) => klaidAny_calls hK h hn)
  have HPF := hide (fun (W2 : World) (D2 : Nat) (vi2 vo2 v2 : Value) (h : Below w.heap.size w W2) (h1 : IsS W2 vi2 t.ins) (h2 : IsOu W2 D2 vo2 t.outs) (h3 : IsKs W2 v2 ks) => pFing_calls h1 h2 h3 hs hl hn (hP.below h) (hTK.below h) (hTS.below h))
  have HDF := hide (fun (W2 : World) (h : Below w.heap.size w W2) => dFing_calls (hi.below h) (ho.below h) (hK.below h) hs hl hn)
  have HST := hide (fun (W2 : World) (D2 : Nat) (vi2 vo2 : Value) (h : Below w.heap.size w W2) (h1 : IsS W2 vi2 t.ins) (h2 : IsOu W2 D2 vo2 t.outs) => stask_calls (s := t) (t := t) h1 h2 (hi.below h) (ho.below h))
  have HIN := hide (fun (W2 : World) (B g c : Nat) (h : Below w.heap.size w W2) (h1 : W2.ownsRow B 32 32 (.slice (some ⟨g, 0, none⟩) (ks.length + 2) c) (ks.length + 2) (kysC ks ++ kysC [kmA, kmB])) => intact_calls h1 (hK.below h) hn)
  have H32 : Hid (∀ k ∈ ks, k.length = 32) := hide (by obtain ⟨_, _, _, _, _, _, _, h⟩ := hK; exact h)
  obtain ⟨X, hX, hXl⟩ := fpK_int t ks
  rw [hX] at HPF HDF
  obtain ⟨E0, hE0⟩ : ∃ E0, E0 = fpE t ks := ⟨_, rfl⟩
  rw [← hE0] at HPF HDF
  have hke := key_eql X X hXl hXl
  rw [decide_eq_true rfl] at hke
  have hkg := key_guard
  have HXL : Hid ((X.map (Value.int .u8)).length = 32) := hide (by rw [List.length_map, hXl])
  have HX1 : Hid (∀ u ∈ X.map (Value.int .u8), u.oneCell' = true) := hide (key_one X)
  obtain ⟨KV, hKV⟩ : ∃ KV, KV = X.map (Value.int .u8) := ⟨_, rfl⟩
  rw [← hKV] at HPF HDF hke HXL HX1
  obtain ⟨ai, ci, rfl, _⟩ := hi
  obtain ⟨ao, co, rfl, _, _⟩ := ho.shape
  obtain ⟨ak, ck, rfl, _⟩ := hK
  obtain ⟨nm, bd, ins, outs⟩ := t
  clear ho hs hl hn hP hTK hTS HWT hX hXl hKV hE0
  show Calls Tryz.prog 8 #[.agg (tsC nm bd (.slice ai ins.length ci) (.slice ao outs.length co)).toArray, .slice ak ks.length ck] w _
  go_enter Tryz.func8, Tryz.ntmps8
  go_wp2_with (first
    | ((fail_if_success (clear HA2)); refine wpList_boxJ rfl 25 _ rfl rfl ?_; intro w2 hA2 hb2 hs2; have HA2 := hide hA2; have HB2 := hide hb2; clear hA2 hb2 hs2)
    | (refine wpList_loadJ rfl 25 (.tmp 2) rfl w.heap.size 0 rfl (tsC nm bd (.slice ai ins.length ci) (.slice ao outs.length co)) _ HA2.out.rangeJ Tryz.underlying25 rfl (infoTss _ _ _ _) ?_)
    | fail)
  refine (HCT.out w2 HB2.out).mono ?_
  rintro e w3 ⟨v3, rfl, HX3⟩
  have HKA := hide HX3.out.1
  have HB3 := hide (below_then HB2.out HX3.out.2)
  have HA3 := hide (HA2.out.below HX3.out.2)
  obtain ⟨vi3, vo3, rfl, hks, hko⟩ := HKA.out
  have HKO := hide hko
  have HKS := hide hks
  obtain ⟨g3, c3, rfl, _⟩ := hks
  obtain ⟨V3, ⟨h3, d3, rfl, _⟩, _⟩ := hko
  clear HX3 HA2 HB2 HCT
  go_wp2_with fail
  refine (HLD.out w3 HB3.out).mono ?_
  rintro e w4 ⟨g4, c4, rfl, HX4⟩
  have HLW := hide HX4.out.1
  have HB34 := hide HX4.out.2
  clear HX4 HLD
  go_wp2_with (first
    | ((fail_if_success (clear HA5)); refine wpList_allocJ rfl 25 rfl infoTsz ?_; have HA5 := hide (Arr.new w4 zTs 25); have HB45 := hide (jalloc_below w4 (.cells zTs.toArray 25)); obtain ⟨w5, hw5⟩ : ∃ x, x = w4.alloc (.cells zTs.toArray 25) := ⟨_, rfl⟩; rw [← hw5] at HA5 HB45 ⊢; clear hw5)
    | ((fail_if_success (clear HA6)); refine wpList_storeJ rfl (.tmp 5) (.tmp 12) 25 rfl rfl rfl HA5.out (infoTss _ _ _ _) rfl (tsC_one rfl rfl) ?_; intro w6 hA6 hg6; have HA6 := hide hA6; have HB6 := hide ((below_then HB34.out HB45.out).grown hg6 (below_then HB34.out HB45.out).size (fun k hk => by cases hk; exact HB34.out.size)); have HB46 := hide ((HB45.out).grown hg6 HB45.out.size (fun k hk => by cases hk; exact Nat.le_refl _)); clear hA6 hg6)
    | (refine wpList_loadJ rfl 25 (.tmp 5) rfl w4.heap.size 0 rfl (tsC nm bd (.slice (some ⟨g3, 0, none⟩) ins.length c3) (.slice (some ⟨h3, 0, none⟩) outs.length d3)) _ HA6.out.rangeJ Tryz.underlying25 rfl (infoTss _ _ _ _) ?_)
    | fail)
  have HB36 := hide HB6.out
  refine (HPF.out w6 (D + 1) _ _ _ (below_then HB3.out HB6.out) (rkS_isS (HKS.out.below HB6.out)) (HKO.out.below HB6.out).isOu (own_isKs (owns_below HLW.out HB46.out) H32.out)).mono ?_
  rintro e w7 ⟨rfl, hb7⟩
  have HB7 := hide (below_then (below_then HB3.out HB6.out) hb7)
  have HB37 := hide (below_then HB6.out hb7)
  have HB47 := hide (below_then HB46.out hb7)
  have HA7 := hide (HA6.out.below hb7)
  have HA7' := hide (HA3.out.below HB37.out)
  clear hb7 HPF HA6 HA5 HB46 HB45 HB6 HB36 HB34 HA3
  go_wp2_with (first
    | ((fail_if_success (clear HA8)); refine wpList_allocJ rfl 32 rfl infoKyz ?_; have HA8 := hide (Arr.new w7 zKy 32); have HB78 := hide (jalloc_below w7 (.cells zKy.toArray 32)); obtain ⟨w8, hw8⟩ : ∃ x, x = w7.alloc (.cells zKy.toArray 32) := ⟨_, rfl⟩; rw [← hw8] at HA8 HB78 ⊢; clear hw8)
    | ((fail_if_success (clear HA9)); refine wpList_storeJ rfl (.tmp 7) (.tmp 19) 32 rfl rfl rfl HA8.out (infoKys HXL.out) (by rw [HXL.out]; rfl) HX1.out ?_; intro w9 hA9 hg9; have HA9 := hide hA9; have HB79 := hide (HB78.out.grown hg9 HB78.out.size (fun k hk => by cases hk; exact Nat.le_refl _)); have HA9' := hide (HA7'.out.below HB79.out); have HB9 := hide (below_then HB7.out HB79.out); clear hA9 hg9)
    | (refine wpList_loadJ rfl 25 (.tmp 2) rfl w.heap.size 0 rfl (tsC nm bd (.slice ai ins.length ci) (.slice ao outs.length co)) _ HA9'.out.rangeJ Tryz.underlying25 rfl (infoTss _ _ _ _) ?_)
    | fail)
  refine (HDF.out w9 HB9.out).mono ?_
  rintro e w10 ⟨rfl, hb10⟩
  have HB10 := hide (below_then HB9.out hb10)
  have HB310 := hide (below_then (below_then HB37.out HB79.out) hb10)
  have HB410 := hide (below_then (below_then HB47.out HB79.out) hb10)
  have HA10 := hide ((HA7.out.below HB79.out).below hb10)
  have HA10' := hide (HA9'.out.below hb10)
  have HK10 := hide (HA9.out.below hb10)
  clear hb10 HDF HA7 HA7' HA8 HA9 HA9' HB78 HB79 HB9 HB7 HB37 HB47
  go_wp2_with (first
    | ((fail_if_success (clear HA11)); refine wpList_allocJ rfl 32 rfl infoKyz ?_; have HA11 := hide (Arr.new w10 zKy 32); have HB11 := hide (jalloc_below w10 (.cells zKy.toArray 32)); obtain ⟨w11, hw11⟩ : ∃ x, x = w10.alloc (.cells zKy.toArray 32) := ⟨_, rfl⟩; rw [← hw11] at HA11 HB11 ⊢; clear hw11)
    | ((fail_if_success (clear HA12)); refine wpList_storeJ rfl (.tmp 9) (.tmp 25) 32 rfl rfl rfl HA11.out (infoKys HXL.out) (by rw [HXL.out]; rfl) HX1.out ?_; intro w12 hA12 hg12; have HA12 := hide hA12; have HB1012 := hide (HB11.out.grown hg12 HB11.out.size (fun k hk => by cases hk; exact Nat.le_refl _)); have HK12 := hide (HK10.out.below HB1012.out); have HT12 := hide (HA10.out.below HB1012.out); have HT12' := hide (HA10'.out.below HB1012.out); clear hA12 hg12)
    | (refine wpList_loadJ rfl 32 (.tmp 7) rfl _ 0 rfl KV _ HK12.out.rangeJ Tryz.underlying32 rfl (infoKys HXL.out) ?_)
    | (refine wpList_loadJ rfl 32 (.tmp 9) rfl _ 0 rfl KV _ HA12.out.rangeJ Tryz.underlying32 rfl (infoKys HXL.out) ?_)
    | (refine wpList_loadJ rfl 25 (.tmp 5) rfl w4.heap.size 0 rfl (tsC nm bd (.slice (some ⟨g3, 0, none⟩) ins.length c3) (.slice (some ⟨h3, 0, none⟩) outs.length d3)) _ HT12.out.rangeJ Tryz.underlying25 rfl (infoTss _ _ _ _) ?_)
    | (refine wpList_loadJ rfl 25 (.tmp 2) rfl w.heap.size 0 rfl (tsC nm bd (.slice ai ins.length ci) (.slice ao outs.length co)) _ HT12'.out.rangeJ Tryz.underlying25 rfl (infoTss _ _ _ _) ?_)
    | fail)
  have HB312 := hide (below_then HB310.out HB1012.out)
  have HB412 := hide (below_then HB410.out HB1012.out)
  have HB12 := hide (below_then HB10.out HB1012.out)
  refine (HST.out w12 (D + 1) _ _ HB12.out (rkS_isS (HKS.out.below HB312.out)) (HKO.out.below HB312.out).isOu).mono ?_
  rintro e w13 ⟨hst, hb13⟩
  obtain ⟨r, rfl, hr⟩ := hst
  obtain rfl : r = true := hr.2 rfl
  have HB13 := hide (below_then HB12.out hb13)
  have HT13 := hide (HT12.out.below hb13)
  have HKA13 := hide ((HKA.out.below HB312.out).below hb13)
  have HB413 := hide (below_then HB412.out hb13)
  clear hb13 hr HST HT12 HT12' HK12 HA12 HA11 HB11 HB1012 HKA HB12 HB412 HB312 HB310 HB410 HA10 HA10' HK10 HKS HKO HB10
  go_wp2_with (first
    | (refine wpList_loadJ rfl 25 (.tmp 5) rfl w4.heap.size 0 rfl (tsC nm bd (.slice (some ⟨g3, 0, none⟩) ins.length c3) (.slice (some ⟨h3, 0, none⟩) outs.length d3)) _ HT13.out.rangeJ Tryz.underlying25 rfl (infoTss _ _ _ _) ?_)
    | fail)
  refine (kept_calls HKA13.out).mono ?_
  rintro e w14 ⟨rfl, hb14⟩
  have HB14 := hide (below_then HB13.out hb14)
  have HB414 := hide (below_then HB413.out hb14)
  clear hb14 HKA13 HT13
  go_wp2_with fail
  refine (HIN.out w14 _ _ _ HB14.out (owns_below HLW.out HB414.out)).mono ?_
  rintro e w15 ⟨rfl, hb15⟩
  go_wp2
  go_ret
  exact ⟨rfl, below_then HB14.out hb15⟩
end Go.Proofs.YtfhfobikbfbajaaGreatDoor
