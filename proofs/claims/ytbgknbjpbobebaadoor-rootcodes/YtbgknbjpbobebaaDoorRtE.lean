/- What Encode answers. -/
import Derived.Test.YtbgknbjpbobebaaDoorRtO
namespace Go.Proofs.YtbgknbjpbobebaaDoor
open Go.RowKit Go.Maps

section
variable {s : SL} {w1 W : World} {B g : Nat} {v : Value}
theorem enc12 (hm : s.May) (h : E8 w1 W B v mk4) (hA : Arr W g 74 (nV (slN s))) : Calls Tryd.prog 32 #[v, .int .i64 4, .slice (some ⟨g, 0, none⟩) 2 9] W fun e w' => ∃ v', e = .returned v' ∧ E8 w1 w' B v' (sl12 s) := by
  refine (addNs_calls (n := 4) (o := 0) (c := 9) (Vs := [s.sc, s.j]) h hA (by decide) (fun j hj => ?_) (fun V hV => ?_) (by decide) (by decide) (by decide) (by simp) (by simp) (by decide)).mono fun _ _ ⟨v', h1, h2, _⟩ => ⟨v', h1, h2⟩
  · match j, hj with
    | 0, _ => rfl
    | 1, _ => rfl
  · have := hm.sc0; have := hm.sc1; have := hm.j0; have := hm.j1
    have e : (2 : Int) ^ (8 * 4) = 4294967296 := by decide
    rw [e]
    simp only [List.mem_cons, List.not_mem_nil, or_false] at hV
    rcases hV with rfl | rfl <;> omega
theorem enc36 (hm : s.May) (h : E8 w1 W B v (sl12 s)) (hA : Arr W g 74 (nV (slN s))) : Calls Tryd.prog 32 #[v, .int .i64 8, .slice (some ⟨g, 2, none⟩) 3 7] W fun e w' => ∃ v', e = .returned v' ∧ E8 w1 w' B v' (sl36 s) := by
  refine (addNs_calls (n := 8) (o := 2) (c := 7) (Vs := [s.t, s.g, s.s]) h hA (by decide) (fun j hj => ?_) (fun V hV => ?_) (by decide) (by decide) (by simp [sl12, mk4, fBs_len]) (by simp) (by simp) (by decide)).mono fun _ _ ⟨v', h1, h2, _⟩ => ⟨v', h1, h2⟩
  · match j, hj with
    | 0, _ => rfl
    | 1, _ => rfl
    | 2, _ => rfl
  · obtain ⟨a0, a1⟩ := hm.t; obtain ⟨b0, b1⟩ := hm.g; obtain ⟨c0, c1⟩ := hm.s
    have e : (2 : Int) ^ (8 * 8) = 18446744073709551616 := by decide
    rw [e]
    simp only [List.mem_cons, List.not_mem_nil, or_false] at hV
    rcases hV with rfl | rfl | rfl <;> omega
theorem enc108 (hs : s.Ok) (hm : s.May) (h : E8 w1 W B v (sl100 s)) (hA : Arr W g 74 (nV (slN s))) : Calls Tryd.prog 32 #[v, .int .i64 4, .slice (some ⟨g, 5, none⟩) 2 4] W fun e w' => ∃ v', e = .returned v' ∧ E8 w1 w' B v' (sl108 s) := by
  refine (addNs_calls (n := 4) (o := 5) (c := 4) (Vs := [s.r.f, s.r.l]) h hA (by decide) (fun j hj => ?_) (fun V hV => ?_) (by decide) (by decide) (by simp [sl100, sl68, sl36, sl12, mk4, fBs_len, hs.len, hs.r.len]) (by simp) (by simp) (by decide)).mono fun _ _ ⟨v', h1, h2, _⟩ => ⟨v', h1, h2⟩
  · match j, hj with
    | 0, _ => rfl
    | 1, _ => rfl
  · obtain ⟨a0, a1, a2, a3⟩ := hm.r
    have := hm.sc1; have := hm.j0
    have e : (2 : Int) ^ (8 * 4) = 4294967296 := by decide
    rw [e]
    simp only [List.mem_cons, List.not_mem_nil, or_false] at hV
    rcases hV with rfl | rfl <;> omega
theorem enc148 (hs : s.Ok) (hm : s.May) (h : E8 w1 W B v (sl140 s)) (hA : Arr W g 74 (nV (slN s))) : Calls Tryd.prog 32 #[v, .int .i64 4, .slice (some ⟨g, 7, none⟩) 2 2] W fun e w' => ∃ v', e = .returned v' ∧ E8 w1 w' B v' (sl148 s) := by
  refine (addNs_calls (n := 4) (o := 7) (c := 2) (Vs := [s.m.f, s.m.l]) h hA (by decide) (fun j hj => ?_) (fun V hV => ?_) (by decide) (by decide) (by simp [sl140, sl108, sl100, sl68, sl36, sl12, mk4, fBs_len, hs.len, hs.r.len, hs.m.len]) (by simp) (by simp) (by decide)).mono fun _ _ ⟨v', h1, h2, _⟩ => ⟨v', h1, h2⟩
  · match j, hj with
    | 0, _ => rfl
    | 1, _ => rfl
  · obtain ⟨a0, a1, a2, a3⟩ := hm.m
    have := hm.sc1; have := hm.j0
    have e : (2 : Int) ^ (8 * 4) = 4294967296 := by decide
    rw [e]
    simp only [List.mem_cons, List.not_mem_nil, or_false] at hV
    rcases hV with rfl | rfl <;> omega
theorem enc512 {xs : List Int} {V : Int} (h : E8 w1 W B v xs) (hl : xs.length ≤ 1000) (h0 : 0 ≤ V) (h1 : V < 4294967296) (hA : Arr W g 3 [.int .i64 V]) : Calls Tryd.prog 32 #[v, .int .i64 4, .slice (some ⟨g, 0, none⟩) 1 1] W fun e w' => ∃ v', e = .returned v' ∧ E8 w1 w' B v' (xs ++ fB V 4) := by
  refine (addNs_calls (n := 4) (o := 0) (c := 1) (Vs := [V]) h hA (by decide) (fun j hj => ?_) (fun U hU => ?_) (by decide) (by decide) (by omega) (by simp) (by simp) (by decide)).mono fun _ _ ⟨v', h1, h2, _⟩ => ⟨v', h1, ?_⟩
  · match j, hj with
    | 0, _ => rfl
  · have e : (2 : Int) ^ (8 * 4) = 4294967296 := by decide
    rw [e]
    simp only [List.mem_cons, List.not_mem_nil, or_false] at hU
    subst hU
    omega
  · have e : fBs 4 [V] = fB V 4 := by simp [fBs]
    rw [e] at h2
    exact h2
end
set_option maxRecDepth 100000 in
set_option maxHeartbeats 1000000 in
theorem senc_no {w : World} {s : SL} (hs : s.Ok) (hm : ¬ s.May) : Calls Tryd.prog 9 #[.agg (slV s).toArray] w fun e w' => e = .returned (.tuple #[.slice none 0 0, .int .i64 180]) ∧ Below w.heap.size w w' := by
  have HM : Hid (∀ W, Calls Tryd.prog 30 #[.agg (slV s).toArray] W fun e w' => e = .returned (.bool false) ∧ Below W.heap.size W w') := hide (fun W => by have := mayBe_calls (w := W) hs; rw [SL.may_no hm] at this; exact this)
  have hinfS := infoSof hs
  generalize slV s = cs1 at *
  clear hs hm
  go_enter Tryd.func9, Tryd.ntmps9
  go_wp2_with (first
    | (refine wpList_boxJ rfl 27 (.tmp 0) rfl rfl ?_; intro w1 hA1 hb1 hs1
       have hrg := hA1.rangeJ
       have HB1 := hide hb1
       clear hA1 hb1 hs1)
    | (refine wpList_loadJ rfl 27 (.tmp 1) rfl _ 0 rfl cs1 _ hrg Tryd.underlying27 rfl hinfS ?_)
    | fail)
  refine (unhide HM _).mono ?_
  rintro e w2 ⟨rfl, hb2⟩
  have HB2 := hide (below_then HB1.out hb2)
  clear hb2
  go_wp2
  go_ret2
  exact ⟨rfl, HB2.out⟩
set_option maxRecDepth 100000 in
set_option maxHeartbeats 4000000 in
theorem senc_good {w : World} {s : SL} (hs : s.Ok) (hm : s.May) (ht : Tab w) : Calls Tryd.prog 9 #[.agg (slV s).toArray] w fun e w' => ∃ u, e = .returned (.tuple #[u, .int .i64 0]) ∧ Own8 w' w.heap.size u (slL s) ∧ Below w.heap.size w w' := by
  obtain ⟨i0, hi, hz0, hz1, hz2⟩ := info_parts info8
  have HM : Hid (∀ W, Calls Tryd.prog 30 #[.agg (slV s).toArray] W fun e w' => e = .returned (.bool true) ∧ Below W.heap.size W w') := hide (fun W => by have := mayBe_calls (w := W) hs; rw [(SL.may_iff s).2 hm] at this; exact this)
  have HNO : Hid (∀ W, Calls Tryd.prog 31 #[.agg (slV s).toArray] W fun e w' => e = .returned (.agg (nV (slN s)).toArray) ∧ Below W.heap.size W w') := hide (fun W => numbersOf_calls hs)
  have H12 : Hid (∀ w1 W B g v, E8 w1 W B v mk4 → Arr W g 74 (nV (slN s)) → Calls Tryd.prog 32 #[v, .int .i64 4, .slice (some ⟨g, 0, none⟩) 2 9] W fun e w' => ∃ v', e = .returned v' ∧ E8 w1 w' B v' (sl12 s)) := hide (fun w1 W B g v h hA => enc12 hm h hA)
  have H36 : Hid (∀ w1 W B g v, E8 w1 W B v (sl12 s) → Arr W g 74 (nV (slN s)) → Calls Tryd.prog 32 #[v, .int .i64 8, .slice (some ⟨g, 2, none⟩) 3 7] W fun e w' => ∃ v', e = .returned v' ∧ E8 w1 w' B v' (sl36 s)) := hide (fun w1 W B g v h hA => enc36 hm h hA)
  have H108 : Hid (∀ w1 W B g v, E8 w1 W B v (sl100 s) → Arr W g 74 (nV (slN s)) → Calls Tryd.prog 32 #[v, .int .i64 4, .slice (some ⟨g, 5, none⟩) 2 4] W fun e w' => ∃ v', e = .returned v' ∧ E8 w1 w' B v' (sl108 s)) := hide (fun w1 W B g v h hA => enc108 hs hm h hA)
  have H148 : Hid (∀ w1 W B g v, E8 w1 W B v (sl140 s) → Arr W g 74 (nV (slN s)) → Calls Tryd.prog 32 #[v, .int .i64 4, .slice (some ⟨g, 7, none⟩) 2 2] W fun e w' => ∃ v', e = .returned v' ∧ E8 w1 w' B v' (sl148 s)) := hide (fun w1 W B g v h hA => enc148 hs hm h hA)
  have HPT : Hid (∀ W g, Arr W g 27 (slV s) → IsB W (.slice (some ⟨g, 5, none⟩) 32 32) s.k ∧ IsB W (.slice (some ⟨g, 37, none⟩) 32 32) s.r.h ∧ IsB W (.slice (some ⟨g, 71, none⟩) 32 32) s.m.h) := hide (fun W g hA => by
    obtain ⟨k1, k2, k3⟩ := slV_k hs
    have a1 := isB_part (c := 32) hA k1 hs.by8 (by have := hs.len; omega) (by omega)
    have a2 := isB_part (c := 32) hA k2 hs.r.by8 (by have := hs.r.len; omega) (by omega)
    have a3 := isB_part (c := 32) hA k3 hs.m.by8 (by have := hs.m.len; omega) (by omega)
    rw [hs.len] at a1
    rw [hs.r.len] at a2
    rw [hs.m.len] at a3
    exact ⟨a1, a2, a3⟩)
  have HL36 : Hid ((sl36 s).length = 36) := hide (by simp [sl36, sl12, mk4, fBs_len])
  have HL68 : Hid ((sl68 s).length = 68) := hide (by simp [sl68, sl36, sl12, mk4, fBs_len, hs.len])
  have HL108 : Hid ((sl108 s).length = 108) := hide (by simp [sl108, sl100, sl68, sl36, sl12, mk4, fBs_len, hs.len, hs.r.len])
  have HL148 := hide (sl148_len hs)
  have HLB := hide (slB_len hs)
  have HBY := hide (slB_by hs)
  have HLK := hide (And.intro hs.len (And.intro hs.r.len hs.m.len))
  have H68 : Hid (sl36 s ++ s.k = sl68 s) := hide rfl
  have H100 : Hid (sl68 s ++ s.r.h = sl100 s) := hide rfl
  have H140 : Hid (sl108 s ++ s.m.h = sl140 s) := hide rfl
  have HSB : Hid (sl148 s ++ List.replicate 360 0 = slB s) := hide rfl
  have HSL : Hid (slB s ++ fB (sumOf [slB s]) 4 = slL s) := hide rfl
  have hinfS := infoSof hs
  have hinf9 : (Tryd.prog.info? 74).map (·.size) = some (nV (slN s)).length := info9z
  have hlen9 : z9.length = (nV (slN s)).length := rfl
  have hone9 := nV_one (slN s)
  have HTB := hide ht
  have HMK : Hid ([] ++ [107, 105, 108, 110] = mk4) := hide rfl
  generalize slL s = SLL at *
  generalize slB s = SLB at *
  generalize sl148 s = S148 at *
  generalize sl140 s = S140 at *
  generalize sl108 s = S108 at *
  generalize sl100 s = S100 at *
  generalize sl68 s = S68 at *
  generalize sl36 s = S36 at *
  generalize sl12 s = S12 at *
  generalize mk4 = S4 at *
  generalize slV s = cs1 at *
  generalize nV (slN s) = ns at *
  generalize s.k = kk at *
  generalize s.r.h = rh at *
  generalize s.m.h = mh at *
  clear hs hm ht
  go_enter Tryd.func9, Tryd.ntmps9
  go_wp2_with (first
    | (refine wpList_boxJ rfl 27 (.tmp 0) rfl rfl ?_; intro w1 hA1 hb1 hs1
       have hrg := hA1.rangeJ
       have HB1 := hide hb1
       have HA1 := hide hA1
       clear hA1 hb1 hs1)
    | (refine wpList_loadJ rfl 27 (.tmp 1) rfl _ 0 rfl cs1 _ hrg Tryd.underlying27 rfl hinfS ?_)
    | fail)
  refine (unhide HM _).mono ?_
  rintro e w2 ⟨rfl, hb2⟩
  have hA2 := HA1.out.below hb2
  have HB2 := hide (below_then HB1.out hb2)
  have HA2 := hide hA2
  have hrg2 := hA2.rangeJ
  clear hb2 hrg HA1 HB1 hA2 HM
  go_wp2_with (first
    | (refine wpList_loadJ rfl 27 (.tmp 1) rfl _ 0 rfl cs1 _ hrg2 Tryd.underlying27 rfl hinfS ?_)
    | fail)
  refine (unhide HNO _).mono ?_
  rintro e w3 ⟨rfl, hb3⟩
  have hA3 := HA2.out.below hb3
  have hbw3 := below_then HB2.out hb3
  have HX : Hid (∀ w4, Arr w4 w3.heap.size 74 ns → (w3.alloc (.cells z9.toArray 74)).grownBy w4 (some w3.heap.size) → Arr w4 w.heap.size 27 cs1 ∧ Below w.heap.size w w4 ∧ ∀ W, Below w4.heap.size w4 W → Arr W w3.heap.size 74 ns ∧ IsB W (.slice (some ⟨w.heap.size, 5, none⟩) 32 32) kk ∧ IsB W (.slice (some ⟨w.heap.size, 37, none⟩) 32 32) rh ∧ IsB W (.slice (some ⟨w.heap.size, 71, none⟩) 32 32) mh ∧ Tab W) := hide (fun w4 hA4 hg4 => by
    have hba := jalloc_below w3 (.cells z9.toArray 74)
    have hlt := hA3.lt
    have hAs := arr_grown (hA3.below hba) hg4 (by simp; omega)
    have hbw4 := jbelow_grown (below_then hbw3 hba) hg4 (Nat.le_trans hbw3.size hba.size) hbw3.size
    refine ⟨hAs, hbw4, fun W hW => ?_⟩
    obtain ⟨p1, p2, p3⟩ := unhide HPT W w.heap.size (hAs.below hW)
    exact ⟨hA4.below hW, p1, p2, p3, (HTB.out.below hbw4).below hW⟩)
  clear HNO HA2 HB2 hA3 hbw3 hrg2 hb3 HPT HTB
  go_wp2_with (first
    | (refine wpList_allocJ rfl 74 rfl info9 ?_)
    | (refine wpList_storeJ rfl (.tmp 4) (.tmp 10) 74 rfl rfl rfl (Arr.new w3 z9 74) hinf9 hlen9 hone9 ?_; intro w4 hA4 hg4
       obtain ⟨_, hbw, hK⟩ := unhide HX w4 hA4 hg4
       have HBW := hide hbw
       have HK := hide hK
       clear hA4 hg4 hbw hK HX)
    | (at_make; refine wpList_make_own _ rfl _ _ 28 rfl w4.heap.size 5 i0 (.int .u8 0) 1 Tryd.underlying28 hi hz0 hz1 .i64 .i64 _ 512 rfl rfl rfl (by rw [hz2]; decide) (by unfold maxLen; decide) (Nat.le_refl _) ?_; intro w5 ho5 hg5
       have HE5 : Hid (E8 w4 w5 w4.heap.size (.slice (some ⟨w4.heap.size, 0, none⟩) 0 512) []) := hide ⟨⟨ho5, by simp⟩, hg5.size, (Below.refl _ _).grown hg5 (Nat.le_refl _) (fun j hj => by cases hj)⟩
       clear ho5 hg5)
    | (at_builtin; refine wpList_appT rfl (.tmp 11) _ rfl (ys := [107, 105, 108, 110]) rfl HE5.out.1 rfl rfl (by decide) (by decide) HE5.out.2.1 ?_; intro v6 w6 ho6 hg6
       have hE6 := HE5.out.app ho6 hg6
       rw [HMK.out] at hE6
       obtain ⟨a6, n6, c6, rfl⟩ := ho6.shape
       have HE6 := hide hE6
       clear ho6 hg6 hE6 HE5)
    | fail)
  generalize w3.heap.size = g4 at *
  refine (sizes_calls w6 g4).mono ?_
  rintro e wx ⟨rfl, hwx⟩
  obtain rfl := hwx.symm
  clear hwx
  go_wp2_with fail
  refine (unhide H12 _ _ _ _ _ HE6.out (unhide HK _ HE6.out.2.2).1).mono ?_
  rintro e w7 ⟨v7, rfl, hE7⟩
  obtain ⟨a7, n7, c7, rfl⟩ := hE7.1.shape
  have HE7 := hide hE7
  clear hE7 HE6 H12
  go_wp2_with fail
  refine (counts_calls w7 g4).mono ?_
  rintro e wx ⟨rfl, hwx⟩
  obtain rfl := hwx.symm
  clear hwx
  go_wp2_with fail
  refine (unhide H36 _ _ _ _ _ HE7.out (unhide HK _ HE7.out.2.2).1).mono ?_
  rintro e w8 ⟨v8, rfl, hE8⟩
  obtain ⟨a8, n8, c8, rfl⟩ := hE8.1.shape
  have HE8 := hide hE8
  clear hE8 HE7 H36
  have hl8 : S36.length + kk.length ≤ 140737488355328 := by rw [HL36.out, HLK.out.1]; decide
  have hl9 : S68.length + rh.length ≤ 140737488355328 := by rw [HL68.out, HLK.out.2.1]; decide
  have HI8 := hide (unhide HK _ HE8.out.2.2).2.1
  go_wp2_with (first
    | (at_builtin; refine wpList_appB rfl (.tmp 19) (.tmp 21) rfl rfl HE8.out.1 rfl HI8.out hl8 HE8.out.2.1 ?_; intro v9 w9 ho9 hg9
       have hE9 := HE8.out.app ho9 hg9
       rw [H68.out] at hE9
       obtain ⟨a9, n9, c9, rfl⟩ := ho9.shape
       have HI9 := hide (unhide HK _ hE9.2.2).2.2.1
       have HE9 := hide hE9
       clear ho9 hg9 hE9 HE8 HI8)
    | (at_builtin; refine wpList_appB rfl (.tmp 23) (.tmp 26) rfl rfl HE9.out.1 rfl HI9.out hl9 HE9.out.2.1 ?_; intro v10 w10 ho10 hg10
       have hE10 := HE9.out.app ho10 hg10
       rw [H100.out] at hE10
       obtain ⟨a10, n10, c10, rfl⟩ := ho10.shape
       have HE10 := hide hE10
       clear ho10 hg10 hE10 HE9 HI9)
    | fail)
  refine (root_calls w10 g4).mono ?_
  rintro e wx ⟨rfl, hwx⟩
  obtain rfl := hwx.symm
  clear hwx
  go_wp2_with fail
  refine (unhide H108 _ _ _ _ _ HE10.out (unhide HK _ HE10.out.2.2).1).mono ?_
  rintro e w11 ⟨v11, rfl, hE11⟩
  obtain ⟨a11, n11, c11, rfl⟩ := hE11.1.shape
  have HE11 := hide hE11
  clear hE11 HE10 H108
  have hl11 : S108.length + mh.length ≤ 140737488355328 := by rw [HL108.out, HLK.out.2.2]; decide
  have HI11 := hide (unhide HK _ HE11.out.2.2).2.2.2.1
  go_wp2_with (first
    | (at_builtin; refine wpList_appB rfl (.tmp 31) (.tmp 34) rfl rfl HE11.out.1 rfl HI11.out hl11 HE11.out.2.1 ?_; intro v12 w12 ho12 hg12
       have hE12 := HE11.out.app ho12 hg12
       rw [H140.out] at hE12
       obtain ⟨a12, n12, c12, rfl⟩ := ho12.shape
       have HE12 := hide hE12
       clear ho12 hg12 hE12 HE11 HI11)
    | fail)
  refine (memo_calls w12 g4).mono ?_
  rintro e wx ⟨rfl, hwx⟩
  obtain rfl := hwx.symm
  clear hwx
  go_wp2_with fail
  refine (unhide H148 _ _ _ _ _ HE12.out (unhide HK _ HE12.out.2.2).1).mono ?_
  rintro e w13 ⟨v13, rfl, hE13⟩
  obtain ⟨a13, c13, rfl⟩ := hE13.shapeN HL148.out
  have HE13 := hide hE13
  clear hE13 HE12 H148
  have hl13 : S148.length + 360 ≤ 1000000 := by rw [HL148.out]; decide
  have hsm : 0 ≤ sumOf [SLB] ∧ sumOf [SLB] < 4294967296 := by
    have h1 : crcAll 4294967295 [SLB] < 2 ^ 32 := crcAll_lt (by decide) (fun xs hxs => by rw [List.mem_singleton.1 hxs]; exact HBY.out)
    have h2 := Nat.xor_lt_two_pow (n := 32) (x := 4294967295) (by decide) h1
    unfold sumOf
    generalize 4294967295 ^^^ crcAll 4294967295 [SLB] = q at h2 ⊢
    omega
  go_wp2_with (first
    | (at_builtin; refine wpList_app0 rfl (.tmp 39) (.tmp 42) rfl (k := 360) rfl HE13.out.1 rfl (by decide) hl13 HE13.out.2.1 ?_; intro v14 w14 ho14 hg14
       have hE14 := HE13.out.app ho14 hg14
       rw [HSB.out] at hE14
       obtain ⟨a14, c14, rfl⟩ := hE14.shapeN HLB.out
       have hbl := jalloc_below w14 (.cells #[.slice a14 508 c14] 28)
       have HBBs := hide (isBB_one hE14.1.isB)
       have HT14 := hide ((unhide HK _ hE14.2.2).2.2.2.2.below hbl)
       have HE14 := hide (hE14.below hbl)
       clear ho14 hg14 hE14 hbl HE13)
    | fail)
  refine (sum_calls HBBs.out HT14.out).mono ?_
  rintro e w15 ⟨rfl, hw15⟩
  obtain rfl := hw15.symm
  clear hw15 HBBs HT14
  have hws : IntKind.i64.wrap (sumOf [SLB]) = sumOf [SLB] := IntWalk.i64_in _ (by omega)
  generalize sumOf [SLB] = sm at *
  have HLS : Hid (SLB.length ≤ 1000) := hide (by rw [HLB.out]; decide)
  obtain ⟨hs0, hs1⟩ := hsm
  go_wp2_with fail
  have hA15 := Arr.new (w14.alloc (.cells #[.slice a14 508 c14] 28)) [.int .i64 sm] 3
  rw [World.size_alloc] at hA15
  refine (enc512 (HE14.out.below (jalloc_below _ _)) HLS.out hs0 hs1 hA15).mono ?_
  rintro e w16 ⟨v16, rfl, hE16⟩
  rw [HSL.out] at hE16
  obtain ⟨a16, n16, c16, rfl⟩ := hE16.1.shape
  have HO16 := hide (hE16.1.mono HBW.out.size)
  have HB16 := hide (HBW.out.trans (hE16.2.2.mono HBW.out.size))
  clear hE16 hA15 HE14
  go_wp2
  go_ret2
  exact ⟨_, rfl, HO16.out, HB16.out⟩
/-- What Encode answers. -/
theorem senc_calls {w : World} {s : SL} (hs : s.Ok) (ht : Tab w) : Calls Tryd.prog 9 #[.agg (slV s).toArray] w fun e w' => ∃ u, e = .returned (.tuple #[u, .int .i64 (encSE s)]) ∧ Own8 w' w.heap.size u (encS s) ∧ Below w.heap.size w w' := by
  by_cases hm : s.May
  · rw [(encS_yes hm).1, (encS_yes hm).2]
    exact senc_good hs hm ht
  · rw [(encS_no hm).1, (encS_no hm).2]
    exact (senc_no hs hm).mono fun _ _ ⟨h1, h2⟩ => ⟨_, h1, Own8.nil _ _, h2⟩
end Go.Proofs.YtbgknbjpbobebaaDoor
