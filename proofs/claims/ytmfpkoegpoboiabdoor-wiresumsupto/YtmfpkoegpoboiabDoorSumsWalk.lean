/- WireSums' walk. -/
import Derived.Test.YtmfpkoegpoboiabDoorSums
import Derived.Test.YtmfpkoegpoboiabDoorPuts
namespace Go.Proofs.YtmfpkoegpoboiabDoor
open Go.RowKit

set_option maxRecDepth 100000 in
set_option maxHeartbeats 10000000 in
theorem sums_walk {w : World} {vp va vb vc : Value} {xss : List (List Int)} {xa xb xc : List Int} (hp : IsBB w vp xss) (hpm : ∀ xs ∈ xss, ∀ x ∈ xs, 0 ≤ x ∧ x ≤ 255) (ha : IsB w va xa) (hb : IsB w vb xb) (hc : IsB w vc xc) (hlp : xss.flatten.length ≤ 1048576) (hla : xa.length ≤ 1048576) (hlb : xb.length ≤ 1048576) (hlc : xc.length ≤ 1048576) (ht : Tab w) :
    Calls Tryd.prog 4 #[vp, va, vb, vc] w fun e w' => e = .returned (.bool true) ∧ Below w.heap.size w w' := by
  have HT := hide ht
  obtain ⟨aa, am, acap, rfl⟩ := ha.shape
  obtain ⟨ba, bm, bcap, rfl⟩ := hb.shape
  obtain ⟨ca, cm, ccap, rfl⟩ := hc.shape
  have HAL := hide ha.lenEq
  have HBL := hide hb.lenEq
  have HCL := hide hc.lenEq
  have ham : am ≤ 1048576 := by rw [HAL.out]; exact hla
  have hbm : bm ≤ 1048576 := by rw [HBL.out]; exact hlb
  have hcm : cm ≤ 1048576 := by rw [HCL.out]; exact hlc
  have HP := hide hp
  have HPM := hide hpm
  have HLP := hide hlp
  have HA := hide ha
  have HB := hide hb
  have HC := hide hc
  clear ht hp hpm hlp ha hb hc hla hlb hlc
  go_enter Tryd.func4, Tryd.ntmps4
  go_wp2_with fail
  have n1 : Below w.heap.size w (w.alloc (.cells #[.int .u8 49, .int .u8 50, .int .u8 51, .int .u8 52] 5)) := (Below.refl _ _).alloc (Nat.le_refl _) _
  have i1 : IsB (w.alloc (.cells #[.int .u8 49, .int .u8 50, .int .u8 51, .int .u8 52] 5)) (.slice (some ⟨w.heap.size, 0, none⟩) 4 4) [49, 50, 51, 52] := isB_lit w [49, 50, 51, 52] _ rfl 4 rfl (by decide) (by decide)
  have i2 := isB_lit (w.alloc (.cells #[.int .u8 49, .int .u8 50, .int .u8 51, .int .u8 52] 5)) [53, 54, 55, 56, 57] _ rfl 5 rfl (by decide) (by decide)
  have n2 := n1.alloc n1.size (.cells #[.int .u8 53, .int .u8 54, .int .u8 55, .int .u8 56, .int .u8 57] 5)
  have i1' := i1.below ((Below.refl _ _).alloc (Nat.le_refl _) (.cells #[.int .u8 53, .int .u8 54, .int .u8 55, .int .u8 56, .int .u8 57] 5))
  have i3 := isBB_lit ((w.alloc (.cells #[.int .u8 49, .int .u8 50, .int .u8 51, .int .u8 52] 5)).alloc (.cells #[.int .u8 53, .int .u8 54, .int .u8 55, .int .u8 56, .int .u8 57] 5))
    [.slice (some ⟨w.heap.size, 0, none⟩) 4 4, .slice none 0 0, .slice (some ⟨w.heap.size + 1, 0, none⟩) 5 5] [[49, 50, 51, 52], [], [53, 54, 55, 56, 57]] _ rfl 3 rfl rfl (by decide) (fun j hj => by
      match j, hj with
      | 0, _ => exact i1'
      | 1, _ => exact isB_nil _
      | 2, _ => rw [World.size_alloc] at i2; exact i2)
  have n3 := n2.alloc n2.size (.cells #[.slice (some ⟨w.heap.size, 0, none⟩) 4 4, .slice none 0 0, .slice (some ⟨w.heap.size + 1, 0, none⟩) 5 5] 23)
  rw [World.size_alloc, World.size_alloc] at i3
  refine (sum_known i3 ((unhide HT).below n3)).mono ?_
  rintro e w1 ⟨rfl, hw1⟩
  have hB1 : Below w.heap.size w w1 := by rw [hw1]; exact n3
  clear hw1 n1 n2 n3 i1 i2 i3 i1'
  go_wp2_with fail
  refine (sum_no (isBB_nil _) ((unhide HT).below hB1)).mono ?_
  rintro e w2 ⟨rfl, hw2⟩
  obtain rfl := hw2.symm
  clear hw2
  go_wp2_with fail
  have i4 := isBB_lit w1 [.slice none 0 0, .slice none 0 0] [[], []] _ rfl 2 rfl rfl (by decide) (fun j hj => by
      match j, hj with
      | 0, _ => exact isB_nil _
      | 1, _ => exact isB_nil _)
  have n4 := hB1.alloc hB1.size (.cells #[.slice none 0 0, .slice none 0 0] 23)
  refine (sum_two i4 ((unhide HT).below n4)).mono ?_
  rintro e w3 ⟨rfl, hw3⟩
  have hB3 : Below w.heap.size w w3 := by rw [hw3]; exact n4
  clear hw3 n4 i4 hB1
  obtain ⟨n, hmin, hna, hnb, hnc⟩ := min_three am bm cm
  obtain ⟨i0, hi, hz0, hz1, hz2⟩ := info_parts info8
  go_wp2_with fail
  clear hmin
  go_loopw [10, 11] (fun d i wr => ∃ k : Nat, k ≤ n ∧ i = .int .i64 (k : Int) ∧ wr.ownsRow w3.heap.size 5 1 d k ((lay xa xb xc k).map (Value.int .u8)) ∧ Below w3.heap.size w3 wr) (fun _ i _ => n - (intOf i).toNat)
  case atStart => exact ⟨0, by omega, rfl, World.ownsRow_nil _ _ _ _, Below.refl _ _⟩
  case round =>
    obtain ⟨k, hk, rfl, hown, hnx⟩ := hrel
    have hsz := hnx.size
    by_cases hlt : k < n
    · have hBr := below_on hB3 hnx
      obtain ⟨ab, ao, rfl⟩ := addr_of (unhide HA) (by omega)
      obtain ⟨bb, bo, rfl⟩ := addr_of (unhide HB) (by omega)
      obtain ⟨cb, co, rfl⟩ := addr_of (unhide HC) (by omega)
      obtain ⟨x, hx, hxe, hxc⟩ := byte_cell ((unhide HA).below hB3) (k := k) (by omega)
      obtain ⟨y, hy, hye, hyc⟩ := byte_cell ((unhide HB).below hB3) (k := k) (by omega)
      obtain ⟨z, hz, hze, hzc⟩ := byte_cell ((unhide HC).below hB3) (k := k) (by omega)
      have hcS : ∀ W, Below w3.heap.size w3 W → (Below w3.heap.size w3 W ∧ W.cell? ⟨ab, ao + k, none⟩ = some (.int .u8 (x : Int)) ∧ W.cell? ⟨bb, bo + k, none⟩ = some (.int .u8 (y : Int)) ∧ W.cell? ⟨cb, co + k, none⟩ = some (.int .u8 (z : Int))) := fun W hW =>
        ⟨hW, (hW.cell (World.block_lt_of_cell? w3 _ hxc)).trans hxc, (hW.cell (World.block_lt_of_cell? w3 _ hyc)).trans hyc, (hW.cell (World.block_lt_of_cell? w3 _ hzc)).trans hzc⟩
      have HCS := hide hcS
      have hxor1 := u8_xor_nat x y hx hy
      obtain ⟨p, hp⟩ : ∃ p, p = x ^^^ y := ⟨_, rfl⟩
      have hp2 : p < 256 := by rw [hp]; exact Nat.xor_lt_two_pow (n := 8) hx hy
      rw [← hp] at hxor1
      have hxor2 := u8_xor_nat p z hp2 hz
      obtain ⟨q, hq⟩ : ∃ q, q = p ^^^ z := ⟨_, rfl⟩
      rw [← hq] at hxor2
      have HQ : Hid ((lay xa xb xc (k + 1)).map (Value.int .u8) = (lay xa xb xc k).map (Value.int .u8) ++ [.int .u8 (q : Int)]) := by
        show _ = _
        rw [lay_succ, hxe, hye, hze, List.map_append, hq, hp]; rfl
      have hK0 : (0 : Int) ≤ (k : Int) := by omega
      have hKa : (k : Int) < (am : Int) := by omega
      have hKb : (k : Int) < (bm : Int) := by omega
      have hKc : (k : Int) < (cm : Int) := by omega
      clear hp hq hx hy hz hp2 hxe hye hze hxc hyc hzc hcS
      go_wp2_with fail
      go_region_held3 (fun W => Below w3.heap.size w3 W ∧ W.cell? ⟨ab, ao + k, none⟩ = some (.int .u8 (x : Int)) ∧ W.cell? ⟨bb, bo + k, none⟩ = some (.int .u8 (y : Int)) ∧ W.cell? ⟨cb, co + k, none⟩ = some (.int .u8 (z : Int)))
        ((refine unhide HCS _ ?_; repeat (first | assumption | exact Below.refl _ _ | refine Below.drew ?_ | refine below_alloc ?_)))
        ((refine step_append_lies _ (by rfl) _ _ _ (by rfl) w3.heap.size 5 i0 _ 1 1 Tryd.underlying23 hi hz0 hz1 hz2 rfl (by omega) _ k _ (by rfl) ((hown.alloc _).drew) ⟨wr.heap.size, 0, none⟩ 1 1 [.int .u8 (q : Int)] (by rfl) (by rfl)
            (World.news_of_block (cs := #[.int .u8 (q : Int)]) (t := 5) (fr := (0, 0)) (heap_alloc_new wr _)) (by simp [Value.oneCell']) (by omega) (by unfold maxLen; omega) (by omega) (by simp; omega) (wr.heap.size + 1) (by simp) ?_
          intro gg cap w4 hown1 hgrow hat hlt
          have hB4 : Below w3.heap.size w3 w4 := ((hnx.alloc hsz _).drew).grown hgrow (by simp; omega) (fun k hk => (hown.lt k hk).1)))
      go_wp2
      go_roundw
      case rel => exact ⟨k + 1, by omega, by go_num, by rw [HQ.out]; exact hown1, by first | exact hB4 | exact hB4.drew⟩
      case measure => simp [intOf]; omega
    · obtain rfl : k = n := by omega
      have hBr := below_on hB3 hnx
      have hO := isB_owns (xs := lay xa xb xc k) hown (lay_bytes (unhide HA).bytes (unhide HB).bytes (unhide HC).bytes k)
      obtain ⟨da, dm, dc, rfl⟩ := hO.shape
      have hka : k ≤ acap := Nat.le_trans hna (unhide HA).room
      have hkb : k ≤ bcap := Nat.le_trans hnb (unhide HB).room
      have hkc : k ≤ ccap := Nat.le_trans hnc (unhide HC).room
      have IA := hide (((unhide HA).below hBr).cut hna)
      have IB := hide (((unhide HB).below hBr).cut hnb)
      have IC := hide (((unhide HC).below hBr).cut hnc)
      have IOh := hide hO
      have HTR := hide ((unhide HT).below hBr)
      obtain ⟨A, B, C, hsA, hsB, hsC, hsD, hA32, hB32, hC32⟩ := sum_lay (unhide HA).mem (unhide HB).mem (unhide HC).mem (n := k) (by rw [← HAL.out]; exact hna) (by rw [← HBL.out]; exact hnb) (by rw [← HCL.out]; exact hnc)
      have hx1 := xor_reg hA32 hB32
      obtain ⟨D1, hD1⟩ : ∃ D1, D1 = A ^^^ B := ⟨_, rfl⟩
      have hD32 : D1 < 2 ^ 32 := by rw [hD1]; exact Nat.xor_lt_two_pow hA32 hB32
      rw [← hD1] at hx1 hsD
      have hx2 := xor_reg hD32 hC32
      obtain ⟨D2, hD2⟩ : ∃ D2, D2 = D1 ^^^ C := ⟨_, rfl⟩
      rw [← hD2] at hx2 hsD
      have SA := hide hsA
      have SB := hide hsB
      have SC := hide hsC
      have SD := hide hsD
      have hk0 : (0 : Int) ≤ (k : Int) := by omega
      have hkA : (k : Int) ≤ (acap : Int) := by omega
      have hkB : (k : Int) ≤ (bcap : Int) := by omega
      have hkC : (k : Int) ≤ (ccap : Int) := by omega
      clear hO hown hsA hsB hsC hsD hA32 hB32 hC32 hD32 hD1 hD2
      go_wp2_with fail
      refine wp_region_any (by kernel_rfl) ?_
      change wpAny _ _ _ _ _ _ _ (World.drew _)
      refine wpAny_fr fun fr hfr => ?_
      have hs : fr.tmps.size = 99 := by rw [hfr]; rfl
      have e1 : fr.tmps[1]? = some (.slice aa am acap) := by rw [hfr]; rfl
      have e2 : fr.tmps[2]? = some (.slice ba bm bcap) := by rw [hfr]; rfl
      have e3 : fr.tmps[3]? = some (.slice ca cm ccap) := by rw [hfr]; rfl
      have e9 : fr.tmps[9]? = some (.int .i64 (k : Int)) := by rw [hfr]; rfl
      have e10 : fr.tmps[10]? = some (.slice da dm dc) := by rw [hfr]; rfl
      have HFR := hide hfr
      clear hfr
      refine wpAny_close fun R QN hR hQN => ?_
      obtain ⟨SL, hSL⟩ : ∃ SL : List Nat, SL = [55, 56, 57, 58, 59, 60, 61, 62, 63, 64, 65, 66, 67, 68, 69, 70, 71, 72, 73, 74, 75] := ⟨_, rfl⟩
      have m55 : 55 ∈ SL := by rw [hSL]; decide
      have m56 : 56 ∈ SL := by rw [hSL]; decide
      have m57 : 57 ∈ SL := by rw [hSL]; decide
      have m58 : 58 ∈ SL := by rw [hSL]; decide
      have m59 : 59 ∈ SL := by rw [hSL]; decide
      have m60 : 60 ∈ SL := by rw [hSL]; decide
      have m61 : 61 ∈ SL := by rw [hSL]; decide
      have m62 : 62 ∈ SL := by rw [hSL]; decide
      have m63 : 63 ∈ SL := by rw [hSL]; decide
      have m64 : 64 ∈ SL := by rw [hSL]; decide
      have m65 : 65 ∈ SL := by rw [hSL]; decide
      have m66 : 66 ∈ SL := by rw [hSL]; decide
      have m67 : 67 ∈ SL := by rw [hSL]; decide
      have m68 : 68 ∈ SL := by rw [hSL]; decide
      have m69 : 69 ∈ SL := by rw [hSL]; decide
      have m70 : 70 ∈ SL := by rw [hSL]; decide
      have m71 : 71 ∈ SL := by rw [hSL]; decide
      have m72 : 72 ∈ SL := by rw [hSL]; decide
      have m73 : 73 ∈ SL := by rw [hSL]; decide
      have m74 : 74 ∈ SL := by rw [hSL]; decide
      have m75 : 75 ∈ SL := by rw [hSL]; decide
      have HEV : ∀ (d : Nat) (vs : Nat → Value), d ∈ SL → d < 99 → (putsL fr SL vs).eval (.tmp d) = vs d := fun d vs h1 h2 => putsL_eval h1 (by rw [hs]; exact h2)
      have HEF : ∀ (d : Nat) (vs : Nat → Value) (v : Value), d ∉ SL → fr.tmps[d]? = some v → (putsL fr SL vs).eval (.tmp d) = v := fun d vs v h1 h2 => by
        have h := putsL_get vs SL fr d
        rw [if_neg (fun h => h1 h.1), h2] at h
        show (putsL fr SL vs).tmps.getD d undef = _
        rw [Array.getD_eq_getD_getElem?, h]
        rfl
      have f1 := fun vs => HEF 1 vs _ (by rw [hSL]; decide) e1
      have f2 := fun vs => HEF 2 vs _ (by rw [hSL]; decide) e2
      have f3 := fun vs => HEF 3 vs _ (by rw [hSL]; decide) e3
      have f9 := fun vs => HEF 9 vs _ (by rw [hSL]; decide) e9
      have f10 := fun vs => HEF 10 vs _ (by rw [hSL]; decide) e10
      have HF7 : ∀ (v : Value) (W : World), (callFunc 15 #[v]).run Tryd.prog W = .ok (.enter 15 #[v]) W := fun v W => by kernel_rfl
      have HSM : ∀ (W : World) (v : Value) (xs : List Int) (n : Nat), Below wr.heap.size wr W → IsBB W v [xs] → sumOf [xs] = (n : Int) → Calls Tryd.prog 15 #[v] W fun e w' => e = .returned (.int .u32 (n : Int)) ∧ w' = W := fun W v xs n h1 h2 h3 => sum_is h2 ((unhide HTR).below h1) h3
      have HEND : ∀ (vs : Nat → Value) (W : World), Below wr.heap.size wr W → vs 75 = .bool false → QN (putsL fr SL vs) W := by
        intro vs W hW h75
        rw [hQN]
        clear HEV HEF f1 f2 f3 f9 f10 HF7 HSM hR hQN e1 e2 e3 e9 e10 hs m55 m56 m57 m58 m59 m60 m61 m62 m63 m64 m65 m66 m67 m68 m69 m70 m71 m72 m73 m74 m75
        rw [hSL]
        have hfr := HFR.out
        clear HFR
        subst hfr
        unfold putsL
        simp only [List.foldl_cons, List.foldl_nil, Act.put, List.setIfInBounds_toArray, List.set_cons_succ, List.set_cons_zero, h75]
        have hxW := below_on hBr hW
        have HSA : ∀ (W' : World) (v : Value) (yss : List (List Int)) (N : Int), Below w.heap.size w W' → IsBB W' v yss → sumOf [yss.flatten] = N → Calls Tryd.prog 15 #[v] W' fun e w' => e = .returned (.int .u32 N) ∧ w' = W' := fun W' v yss N h1 h2 h3 => by
          have h4 := sum_calls h2 ((unhide HT).below h1)
          have e : sumOf yss = N := by rw [← h3, sumOf, sumOf, crcAll_flatten, crcAll_flatten]; simp
          rw [e] at h4
          exact h4
        have hflat : ∀ x ∈ xss.flatten, 0 ≤ x ∧ x ≤ 255 := fun x hx => by
          obtain ⟨l, hl, hxl⟩ := List.mem_flatten.1 hx
          exact unhide HPM l hl x hxl
        have hflab : ∀ x ∈ [xa, xb].flatten, 0 ≤ x ∧ x ≤ 255 := fun x hx => by
          simp only [List.flatten_cons, List.flatten_nil, List.append_nil, List.mem_append] at hx
          rcases hx with hx | hx
          · exact (unhide HA).mem x hx
          · exact (unhide HB).mem x hx
        have hlab : [xa, xb].flatten.length ≤ 140737488355328 := by
          have h1 := HAL.out
          have h2 := HBL.out
          simp only [List.flatten_cons, List.flatten_nil, List.append_nil, List.length_append]
          omega
        have hlxs : xss.flatten.length ≤ 140737488355328 := by have := HLP.out; omega
        obtain ⟨NP, hNP⟩ : ∃ N, N = sumOf [xss.flatten] := ⟨_, rfl⟩
        obtain ⟨NA, hNA⟩ : ∃ N, N = sumOf [[xa, xb].flatten] := ⟨_, rfl⟩
        have two : ∀ W' : World, Below w.heap.size w W' → IsBB (W'.alloc (.cells #[.slice aa am acap, .slice ba bm bcap] 23)) (.slice (some ⟨W'.heap.size, 0, none⟩) 2 2) [xa, xb] := fun W' hW' =>
          isBB_lit W' [.slice aa am acap, .slice ba bm bcap] [xa, xb] _ rfl 2 rfl rfl (by decide) (fun j hj => by
            match j, hj with
            | 0, _ => exact (unhide HA).below hW'
            | 1, _ => exact (unhide HB).below hW')
        have one : ∀ (W' : World) (a : Option Addr) (n c : Nat) (ys : List Int), IsB W' (.slice a n c) ys → IsBB (W'.alloc (.cells #[.slice a n c] 23)) (.slice (some ⟨W'.heap.size, 0, none⟩) 1 1) [ys] := fun W' a n c ys h => isBB_base h (Below.refl _ _) rfl
        have HNP := hide hNP
        have HNA := hide hNA
        have HFLX := hide hflat
        have HFLB := hide hflab
        have HTWO := hide two
        have HONE := hide one
        have HSAA := hide HSA
        clear hNP hNA hflat hflab two one HSA IA IB IC IOh HTR SA SB SC SD hx1 hx2 hk0 hkA hkB hkC hka hkb hkc hnx hBr hB3 hW
        go_wp2_with fail
        refine (started_calls _ ((unhide HT).below hxW)).mono ?_
        rintro e w5 ⟨rfl, hb5⟩
        have hx5 := below_on hxW hb5
        go_wp2_with fail
        refine (unhide HSAA w5 vp xss NP hx5 ((unhide HP).below hx5) HNP.out.symm).mono ?_
        rintro e w6 ⟨rfl, hw6⟩
        obtain rfl := hw6.symm
        clear hw6
        go_wp2_with fail
        refine (join_calls ((unhide HP).below hx5) (unhide HFLX) hlxs).mono ?_
        rintro e w7 ⟨a7, n7, c7, rfl, hO7, hb7⟩
        have hx7 := below_on hx5 hb7
        go_wp2_with fail
        refine (unhide HSAA _ _ [xss.flatten] NP (below_alloc hx7) (unhide HONE w7 _ _ _ _ hO7.isB) (by simpa using HNP.out.symm)).mono ?_
        rintro e w8 ⟨rfl, hw8⟩
        have hx8 : Below w.heap.size w w8 := by rw [hw8]; exact below_alloc hx7
        clear hw8
        go_wp2_with fail
        refine (unhide HSAA _ _ [xa, xb] NA (below_alloc hx8) (unhide HTWO w8 hx8) HNA.out.symm).mono ?_
        rintro e w9 ⟨rfl, hw9⟩
        have hx9 : Below w.heap.size w w9 := by rw [hw9]; exact below_alloc hx8
        clear hw9
        go_wp2_with fail
        refine (join_calls (unhide HTWO w9 hx9) (unhide HFLB) hlab).mono ?_
        rintro e w10 ⟨a10, n10, c10, rfl, hO10, hb10⟩
        have hx10 := below_on (below_alloc hx9) hb10
        go_wp2_with fail
        refine (unhide HSAA _ _ [[xa, xb].flatten] NA (below_alloc hx10) (unhide HONE w10 _ _ _ _ hO10.isB) (by simpa using HNA.out.symm)).mono ?_
        rintro e w11 ⟨rfl, hw11⟩
        have hx11 : Below w.heap.size w w11 := by rw [hw11]; exact below_alloc hx10
        clear hw11
        go_wp2
        go_ret
        exact ⟨rfl, hx11⟩
      have T4_0123 : ∀ (vs : Nat → Value) (W : World), Below wr.heap.size wr W → vs 57 = .int .u32 (D2 : Int) → vs 73 = .int .u32 (C : Int) → vs 68 = .int .u32 (D1 : Int) → R 2 #[true, true, true, true, true, true, true, true, true, true, true, true, true, true, true, true, true, true, true, false, false] (putsL fr SL vs) W := by
        intro vs W hW c57 c73 c68
        rw [hR]
        refine wpAny_scr 19 74 (.int .u32 (D2 : Int)) rfl rfl m74 (by kernel_rfl) (by kernel_rfl) (by kernel_rfl) (fun _ _ _ h => h) (yields_bin rfl rfl ((HEV 68 vs m68 (by decide)).trans c68) ((HEV 73 vs m73 (by decide)).trans c73) (guard_ints _ _ _ _ _ _ _ _) (fun W => by rw [xor_ints, hx2])) ?_
        refine wpAny_scr 20 75 (.bool false) rfl rfl m75 (by kernel_rfl) (by kernel_rfl) (by kernel_rfl) (fun _ _ _ h => h) (yields_bin rfl rfl ((HEV 57 _ m57 (by decide)).trans ((updV_ne (by decide)).trans c57)) ((HEV 74 _ m74 (by decide)).trans updV_eq) (guard_ints _ _ _ _ _ _ _ _) (neq_ints _ _)) ?_
        refine wpAny_done (by kernel_rfl) ?_ _
        rw [← hQN]
        exact HEND _ W hW updV_eq
      have T3_0123 : ∀ (vs : Nat → Value) (W : World), Below wr.heap.size wr W → IsBB W (vs 72) [xc.take k] → vs 57 = .int .u32 (D2 : Int) → vs 68 = .int .u32 (D1 : Int) → R 3 #[true, true, true, true, true, true, true, true, true, true, true, true, true, true, true, true, true, true, false, false, false] (putsL fr SL vs) W := by
        intro vs W hW b72 c57 c68
        refine wpAny_scrs hR (rs := [18]) (by kernel_rfl) (by simp) ?_
        refine AllReady.cons rfl (fun K hK => ?_) ?_
        · refine step_call1 rfl 15 HF7 (.tmp 72) _ rfl (HEV 72 vs m72 (by decide)) (HSM W _ _ C hW b72 (unhide SC)) ?_
          refine hK _ _ ?_
          show wpAny _ _ _ _ _ _ ((putsL fr SL vs).put (some 73) _) _
          rw [putsL_put m73]
          rw [← hR]
          exact T4_0123 _ _ hW ((updV_ne (by decide)).trans c57) updV_eq ((updV_ne (by decide)).trans c68)
        exact AllReady.nil
      have T3_012 : ∀ (vs : Nat → Value) (W : World), Below wr.heap.size wr W → vs 71 = .slice ca k ccap → vs 57 = .int .u32 (D2 : Int) → vs 68 = .int .u32 (D1 : Int) → R 4 #[true, true, true, true, true, true, true, true, true, true, true, true, true, true, true, true, true, false, false, false, false] (putsL fr SL vs) W := by
        intro vs W hW h71 c57 c68
        refine wpAny_scrs hR (rs := [17]) (by kernel_rfl) (by simp) ?_
        refine AllReady.cons rfl (fun K hK => ?_) ?_
        · refine step_lit1 rfl (.tmp 71) rfl ((HEV 71 vs m71 (by decide)).trans h71) ?_
          refine hK _ _ ?_
          rw [← hR]
          show R _ _ ((putsL fr SL vs).put (some 72) _) _
          rw [putsL_put m72]
          exact T3_0123 _ _ (below_alloc hW) (by rw [updV_eq]; exact isBB_base (unhide IC) hW rfl) ((updV_ne (by decide)).trans c57) ((updV_ne (by decide)).trans c68)
        exact AllReady.nil
      have T2_0123 : ∀ (vs : Nat → Value) (W : World), Below wr.heap.size wr W → IsBB W (vs 66) [xb.take k] → IsBB W (vs 72) [xc.take k] → vs 57 = .int .u32 (D2 : Int) → vs 62 = .int .u32 (A : Int) → R 5 #[true, true, true, true, true, true, true, true, true, true, true, true, false, false, true, true, true, true, false, false, false] (putsL fr SL vs) W := by
        intro vs W hW b66 b72 c57 c62
        refine wpAny_scrs hR (rs := [12]) (by kernel_rfl) (by simp) ?_
        refine AllReady.cons rfl (fun K hK => ?_) ?_
        · refine step_call1 rfl 15 HF7 (.tmp 66) _ rfl (HEV 66 vs m66 (by decide)) (HSM W _ _ B hW b66 (unhide SB)) ?_
          refine hK _ _ ?_
          show wpAny _ _ _ _ _ _ ((putsL fr SL vs).put (some 67) _) _
          rw [putsL_put m67]
          refine wpAny_scr 13 68 (.int .u32 (D1 : Int)) rfl rfl m68 (by kernel_rfl) (by kernel_rfl) (by kernel_rfl) (fun _ _ _ h => h) (yields_bin rfl rfl ((HEV 62 _ m62 (by decide)).trans ((updV_ne (by decide)).trans c62)) ((HEV 67 _ m67 (by decide)).trans updV_eq) (guard_ints _ _ _ _ _ _ _ _) (fun W => by rw [xor_ints, hx1])) ?_
          rw [← hR]
          exact T3_0123 _ _ hW (by rw [updV_ne (by decide), updV_ne (by decide)]; exact b72) ((updV_ne (by decide)).trans ((updV_ne (by decide)).trans c57)) updV_eq
        exact AllReady.nil
      have T2_012 : ∀ (vs : Nat → Value) (W : World), Below wr.heap.size wr W → vs 71 = .slice ca k ccap → IsBB W (vs 66) [xb.take k] → vs 57 = .int .u32 (D2 : Int) → vs 62 = .int .u32 (A : Int) → R 6 #[true, true, true, true, true, true, true, true, true, true, true, true, false, false, true, true, true, false, false, false, false] (putsL fr SL vs) W := by
        intro vs W hW h71 b66 c57 c62
        refine wpAny_scrs hR (rs := [12, 17]) (by kernel_rfl) (by simp) ?_
        refine AllReady.cons rfl (fun K hK => ?_) ?_
        · refine step_call1 rfl 15 HF7 (.tmp 66) _ rfl (HEV 66 vs m66 (by decide)) (HSM W _ _ B hW b66 (unhide SB)) ?_
          refine hK _ _ ?_
          show wpAny _ _ _ _ _ _ ((putsL fr SL vs).put (some 67) _) _
          rw [putsL_put m67]
          refine wpAny_scr 13 68 (.int .u32 (D1 : Int)) rfl rfl m68 (by kernel_rfl) (by kernel_rfl) (by kernel_rfl) (fun _ _ _ h => h) (yields_bin rfl rfl ((HEV 62 _ m62 (by decide)).trans ((updV_ne (by decide)).trans c62)) ((HEV 67 _ m67 (by decide)).trans updV_eq) (guard_ints _ _ _ _ _ _ _ _) (fun W => by rw [xor_ints, hx1])) ?_
          rw [← hR]
          exact T3_012 _ _ hW ((updV_ne (by decide)).trans ((updV_ne (by decide)).trans h71)) ((updV_ne (by decide)).trans ((updV_ne (by decide)).trans c57)) updV_eq
        refine AllReady.cons rfl (fun K hK => ?_) ?_
        · refine step_lit1 rfl (.tmp 71) rfl ((HEV 71 vs m71 (by decide)).trans h71) ?_
          refine hK _ _ ?_
          rw [← hR]
          show R _ _ ((putsL fr SL vs).put (some 72) _) _
          rw [putsL_put m72]
          exact T2_0123 _ _ (below_alloc hW) (by rw [updV_ne (by decide)]; exact b66.alloc _) (by rw [updV_eq]; exact isBB_base (unhide IC) hW rfl) ((updV_ne (by decide)).trans c57) ((updV_ne (by decide)).trans c62)
        exact AllReady.nil
      have T2_013 : ∀ (vs : Nat → Value) (W : World), Below wr.heap.size wr W → vs 65 = .slice ba k bcap → IsBB W (vs 72) [xc.take k] → vs 57 = .int .u32 (D2 : Int) → vs 62 = .int .u32 (A : Int) → R 6 #[true, true, true, true, true, true, true, true, true, true, true, false, false, false, true, true, true, true, false, false, false] (putsL fr SL vs) W := by
        intro vs W hW h65 b72 c57 c62
        refine wpAny_scrs hR (rs := [11]) (by kernel_rfl) (by simp) ?_
        refine AllReady.cons rfl (fun K hK => ?_) ?_
        · refine step_lit1 rfl (.tmp 65) rfl ((HEV 65 vs m65 (by decide)).trans h65) ?_
          refine hK _ _ ?_
          rw [← hR]
          show R _ _ ((putsL fr SL vs).put (some 66) _) _
          rw [putsL_put m66]
          exact T2_0123 _ _ (below_alloc hW) (by rw [updV_eq]; exact isBB_base (unhide IB) hW rfl) (by rw [updV_ne (by decide)]; exact b72.alloc _) ((updV_ne (by decide)).trans c57) ((updV_ne (by decide)).trans c62)
        exact AllReady.nil
      have T1_0123 : ∀ (vs : Nat → Value) (W : World), Below wr.heap.size wr W → IsBB W (vs 61) [xa.take k] → IsBB W (vs 66) [xb.take k] → IsBB W (vs 72) [xc.take k] → vs 57 = .int .u32 (D2 : Int) → R 6 #[true, true, true, true, true, true, true, false, true, true, true, true, false, false, true, true, true, true, false, false, false] (putsL fr SL vs) W := by
        intro vs W hW b61 b66 b72 c57
        refine wpAny_scrs hR (rs := [7]) (by kernel_rfl) (by simp) ?_
        refine AllReady.cons rfl (fun K hK => ?_) ?_
        · refine step_call1 rfl 15 HF7 (.tmp 61) _ rfl (HEV 61 vs m61 (by decide)) (HSM W _ _ A hW b61 (unhide SA)) ?_
          refine hK _ _ ?_
          show wpAny _ _ _ _ _ _ ((putsL fr SL vs).put (some 62) _) _
          rw [putsL_put m62]
          rw [← hR]
          exact T2_0123 _ _ hW (by rw [updV_ne (by decide)]; exact b66) (by rw [updV_ne (by decide)]; exact b72) ((updV_ne (by decide)).trans c57) updV_eq
        exact AllReady.nil
      have T2_01 : ∀ (vs : Nat → Value) (W : World), Below wr.heap.size wr W → vs 65 = .slice ba k bcap → vs 71 = .slice ca k ccap → vs 57 = .int .u32 (D2 : Int) → vs 62 = .int .u32 (A : Int) → R 7 #[true, true, true, true, true, true, true, true, true, true, true, false, false, false, true, true, true, false, false, false, false] (putsL fr SL vs) W := by
        intro vs W hW h65 h71 c57 c62
        refine wpAny_scrs hR (rs := [11, 17]) (by kernel_rfl) (by simp) ?_
        refine AllReady.cons rfl (fun K hK => ?_) ?_
        · refine step_lit1 rfl (.tmp 65) rfl ((HEV 65 vs m65 (by decide)).trans h65) ?_
          refine hK _ _ ?_
          rw [← hR]
          show R _ _ ((putsL fr SL vs).put (some 66) _) _
          rw [putsL_put m66]
          exact T2_012 _ _ (below_alloc hW) ((updV_ne (by decide)).trans h71) (by rw [updV_eq]; exact isBB_base (unhide IB) hW rfl) ((updV_ne (by decide)).trans c57) ((updV_ne (by decide)).trans c62)
        refine AllReady.cons rfl (fun K hK => ?_) ?_
        · refine step_lit1 rfl (.tmp 71) rfl ((HEV 71 vs m71 (by decide)).trans h71) ?_
          refine hK _ _ ?_
          rw [← hR]
          show R _ _ ((putsL fr SL vs).put (some 72) _) _
          rw [putsL_put m72]
          exact T2_013 _ _ (below_alloc hW) ((updV_ne (by decide)).trans h65) (by rw [updV_eq]; exact isBB_base (unhide IC) hW rfl) ((updV_ne (by decide)).trans c57) ((updV_ne (by decide)).trans c62)
        exact AllReady.nil
      have T1_012 : ∀ (vs : Nat → Value) (W : World), Below wr.heap.size wr W → vs 71 = .slice ca k ccap → IsBB W (vs 61) [xa.take k] → IsBB W (vs 66) [xb.take k] → vs 57 = .int .u32 (D2 : Int) → R 7 #[true, true, true, true, true, true, true, false, true, true, true, true, false, false, true, true, true, false, false, false, false] (putsL fr SL vs) W := by
        intro vs W hW h71 b61 b66 c57
        refine wpAny_scrs hR (rs := [7, 17]) (by kernel_rfl) (by simp) ?_
        refine AllReady.cons rfl (fun K hK => ?_) ?_
        · refine step_call1 rfl 15 HF7 (.tmp 61) _ rfl (HEV 61 vs m61 (by decide)) (HSM W _ _ A hW b61 (unhide SA)) ?_
          refine hK _ _ ?_
          show wpAny _ _ _ _ _ _ ((putsL fr SL vs).put (some 62) _) _
          rw [putsL_put m62]
          rw [← hR]
          exact T2_012 _ _ hW ((updV_ne (by decide)).trans h71) (by rw [updV_ne (by decide)]; exact b66) ((updV_ne (by decide)).trans c57) updV_eq
        refine AllReady.cons rfl (fun K hK => ?_) ?_
        · refine step_lit1 rfl (.tmp 71) rfl ((HEV 71 vs m71 (by decide)).trans h71) ?_
          refine hK _ _ ?_
          rw [← hR]
          show R _ _ ((putsL fr SL vs).put (some 72) _) _
          rw [putsL_put m72]
          exact T1_0123 _ _ (below_alloc hW) (by rw [updV_ne (by decide)]; exact b61.alloc _) (by rw [updV_ne (by decide)]; exact b66.alloc _) (by rw [updV_eq]; exact isBB_base (unhide IC) hW rfl) ((updV_ne (by decide)).trans c57)
        exact AllReady.nil
      have T1_013 : ∀ (vs : Nat → Value) (W : World), Below wr.heap.size wr W → vs 65 = .slice ba k bcap → IsBB W (vs 61) [xa.take k] → IsBB W (vs 72) [xc.take k] → vs 57 = .int .u32 (D2 : Int) → R 7 #[true, true, true, true, true, true, true, false, true, true, true, false, false, false, true, true, true, true, false, false, false] (putsL fr SL vs) W := by
        intro vs W hW h65 b61 b72 c57
        refine wpAny_scrs hR (rs := [7, 11]) (by kernel_rfl) (by simp) ?_
        refine AllReady.cons rfl (fun K hK => ?_) ?_
        · refine step_call1 rfl 15 HF7 (.tmp 61) _ rfl (HEV 61 vs m61 (by decide)) (HSM W _ _ A hW b61 (unhide SA)) ?_
          refine hK _ _ ?_
          show wpAny _ _ _ _ _ _ ((putsL fr SL vs).put (some 62) _) _
          rw [putsL_put m62]
          rw [← hR]
          exact T2_013 _ _ hW ((updV_ne (by decide)).trans h65) (by rw [updV_ne (by decide)]; exact b72) ((updV_ne (by decide)).trans c57) updV_eq
        refine AllReady.cons rfl (fun K hK => ?_) ?_
        · refine step_lit1 rfl (.tmp 65) rfl ((HEV 65 vs m65 (by decide)).trans h65) ?_
          refine hK _ _ ?_
          rw [← hR]
          show R _ _ ((putsL fr SL vs).put (some 66) _) _
          rw [putsL_put m66]
          exact T1_0123 _ _ (below_alloc hW) (by rw [updV_ne (by decide)]; exact b61.alloc _) (by rw [updV_eq]; exact isBB_base (unhide IB) hW rfl) (by rw [updV_ne (by decide)]; exact b72.alloc _) ((updV_ne (by decide)).trans c57)
        exact AllReady.nil
      have T1_023 : ∀ (vs : Nat → Value) (W : World), Below wr.heap.size wr W → vs 60 = .slice aa k acap → IsBB W (vs 66) [xb.take k] → IsBB W (vs 72) [xc.take k] → vs 57 = .int .u32 (D2 : Int) → R 7 #[true, true, true, true, true, true, false, false, true, true, true, true, false, false, true, true, true, true, false, false, false] (putsL fr SL vs) W := by
        intro vs W hW h60 b66 b72 c57
        refine wpAny_scrs hR (rs := [6]) (by kernel_rfl) (by simp) ?_
        refine AllReady.cons rfl (fun K hK => ?_) ?_
        · refine step_lit1 rfl (.tmp 60) rfl ((HEV 60 vs m60 (by decide)).trans h60) ?_
          refine hK _ _ ?_
          rw [← hR]
          show R _ _ ((putsL fr SL vs).put (some 61) _) _
          rw [putsL_put m61]
          exact T1_0123 _ _ (below_alloc hW) (by rw [updV_eq]; exact isBB_base (unhide IA) hW rfl) (by rw [updV_ne (by decide)]; exact b66.alloc _) (by rw [updV_ne (by decide)]; exact b72.alloc _) ((updV_ne (by decide)).trans c57)
        exact AllReady.nil
      have T0_0123 : ∀ (vs : Nat → Value) (W : World), Below wr.heap.size wr W → IsBB W (vs 56) [lay xa xb xc k] → IsBB W (vs 61) [xa.take k] → IsBB W (vs 66) [xb.take k] → IsBB W (vs 72) [xc.take k] → R 7 #[true, true, false, true, true, true, true, false, true, true, true, true, false, false, true, true, true, true, false, false, false] (putsL fr SL vs) W := by
        intro vs W hW b56 b61 b66 b72
        refine wpAny_scrs hR (rs := [2]) (by kernel_rfl) (by simp) ?_
        refine AllReady.cons rfl (fun K hK => ?_) ?_
        · refine step_call1 rfl 15 HF7 (.tmp 56) _ rfl (HEV 56 vs m56 (by decide)) (HSM W _ _ D2 hW b56 (unhide SD)) ?_
          refine hK _ _ ?_
          show wpAny _ _ _ _ _ _ ((putsL fr SL vs).put (some 57) _) _
          rw [putsL_put m57]
          rw [← hR]
          exact T1_0123 _ _ hW (by rw [updV_ne (by decide)]; exact b61) (by rw [updV_ne (by decide)]; exact b66) (by rw [updV_ne (by decide)]; exact b72) updV_eq
        exact AllReady.nil
      have T1_01 : ∀ (vs : Nat → Value) (W : World), Below wr.heap.size wr W → vs 65 = .slice ba k bcap → vs 71 = .slice ca k ccap → IsBB W (vs 61) [xa.take k] → vs 57 = .int .u32 (D2 : Int) → R 8 #[true, true, true, true, true, true, true, false, true, true, true, false, false, false, true, true, true, false, false, false, false] (putsL fr SL vs) W := by
        intro vs W hW h65 h71 b61 c57
        refine wpAny_scrs hR (rs := [7, 11, 17]) (by kernel_rfl) (by simp) ?_
        refine AllReady.cons rfl (fun K hK => ?_) ?_
        · refine step_call1 rfl 15 HF7 (.tmp 61) _ rfl (HEV 61 vs m61 (by decide)) (HSM W _ _ A hW b61 (unhide SA)) ?_
          refine hK _ _ ?_
          show wpAny _ _ _ _ _ _ ((putsL fr SL vs).put (some 62) _) _
          rw [putsL_put m62]
          rw [← hR]
          exact T2_01 _ _ hW ((updV_ne (by decide)).trans h65) ((updV_ne (by decide)).trans h71) ((updV_ne (by decide)).trans c57) updV_eq
        refine AllReady.cons rfl (fun K hK => ?_) ?_
        · refine step_lit1 rfl (.tmp 65) rfl ((HEV 65 vs m65 (by decide)).trans h65) ?_
          refine hK _ _ ?_
          rw [← hR]
          show R _ _ ((putsL fr SL vs).put (some 66) _) _
          rw [putsL_put m66]
          exact T1_012 _ _ (below_alloc hW) ((updV_ne (by decide)).trans h71) (by rw [updV_ne (by decide)]; exact b61.alloc _) (by rw [updV_eq]; exact isBB_base (unhide IB) hW rfl) ((updV_ne (by decide)).trans c57)
        refine AllReady.cons rfl (fun K hK => ?_) ?_
        · refine step_lit1 rfl (.tmp 71) rfl ((HEV 71 vs m71 (by decide)).trans h71) ?_
          refine hK _ _ ?_
          rw [← hR]
          show R _ _ ((putsL fr SL vs).put (some 72) _) _
          rw [putsL_put m72]
          exact T1_013 _ _ (below_alloc hW) ((updV_ne (by decide)).trans h65) (by rw [updV_ne (by decide)]; exact b61.alloc _) (by rw [updV_eq]; exact isBB_base (unhide IC) hW rfl) ((updV_ne (by decide)).trans c57)
        exact AllReady.nil
      have T1_02 : ∀ (vs : Nat → Value) (W : World), Below wr.heap.size wr W → vs 60 = .slice aa k acap → vs 71 = .slice ca k ccap → IsBB W (vs 66) [xb.take k] → vs 57 = .int .u32 (D2 : Int) → R 8 #[true, true, true, true, true, true, false, false, true, true, true, true, false, false, true, true, true, false, false, false, false] (putsL fr SL vs) W := by
        intro vs W hW h60 h71 b66 c57
        refine wpAny_scrs hR (rs := [6, 17]) (by kernel_rfl) (by simp) ?_
        refine AllReady.cons rfl (fun K hK => ?_) ?_
        · refine step_lit1 rfl (.tmp 60) rfl ((HEV 60 vs m60 (by decide)).trans h60) ?_
          refine hK _ _ ?_
          rw [← hR]
          show R _ _ ((putsL fr SL vs).put (some 61) _) _
          rw [putsL_put m61]
          exact T1_012 _ _ (below_alloc hW) ((updV_ne (by decide)).trans h71) (by rw [updV_eq]; exact isBB_base (unhide IA) hW rfl) (by rw [updV_ne (by decide)]; exact b66.alloc _) ((updV_ne (by decide)).trans c57)
        refine AllReady.cons rfl (fun K hK => ?_) ?_
        · refine step_lit1 rfl (.tmp 71) rfl ((HEV 71 vs m71 (by decide)).trans h71) ?_
          refine hK _ _ ?_
          rw [← hR]
          show R _ _ ((putsL fr SL vs).put (some 72) _) _
          rw [putsL_put m72]
          exact T1_023 _ _ (below_alloc hW) ((updV_ne (by decide)).trans h60) (by rw [updV_ne (by decide)]; exact b66.alloc _) (by rw [updV_eq]; exact isBB_base (unhide IC) hW rfl) ((updV_ne (by decide)).trans c57)
        exact AllReady.nil
      have T1_03 : ∀ (vs : Nat → Value) (W : World), Below wr.heap.size wr W → vs 60 = .slice aa k acap → vs 65 = .slice ba k bcap → IsBB W (vs 72) [xc.take k] → vs 57 = .int .u32 (D2 : Int) → R 8 #[true, true, true, true, true, true, false, false, true, true, true, false, false, false, true, true, true, true, false, false, false] (putsL fr SL vs) W := by
        intro vs W hW h60 h65 b72 c57
        refine wpAny_scrs hR (rs := [6, 11]) (by kernel_rfl) (by simp) ?_
        refine AllReady.cons rfl (fun K hK => ?_) ?_
        · refine step_lit1 rfl (.tmp 60) rfl ((HEV 60 vs m60 (by decide)).trans h60) ?_
          refine hK _ _ ?_
          rw [← hR]
          show R _ _ ((putsL fr SL vs).put (some 61) _) _
          rw [putsL_put m61]
          exact T1_013 _ _ (below_alloc hW) ((updV_ne (by decide)).trans h65) (by rw [updV_eq]; exact isBB_base (unhide IA) hW rfl) (by rw [updV_ne (by decide)]; exact b72.alloc _) ((updV_ne (by decide)).trans c57)
        refine AllReady.cons rfl (fun K hK => ?_) ?_
        · refine step_lit1 rfl (.tmp 65) rfl ((HEV 65 vs m65 (by decide)).trans h65) ?_
          refine hK _ _ ?_
          rw [← hR]
          show R _ _ ((putsL fr SL vs).put (some 66) _) _
          rw [putsL_put m66]
          exact T1_023 _ _ (below_alloc hW) ((updV_ne (by decide)).trans h60) (by rw [updV_eq]; exact isBB_base (unhide IB) hW rfl) (by rw [updV_ne (by decide)]; exact b72.alloc _) ((updV_ne (by decide)).trans c57)
        exact AllReady.nil
      have T0_012 : ∀ (vs : Nat → Value) (W : World), Below wr.heap.size wr W → vs 71 = .slice ca k ccap → IsBB W (vs 56) [lay xa xb xc k] → IsBB W (vs 61) [xa.take k] → IsBB W (vs 66) [xb.take k] → R 8 #[true, true, false, true, true, true, true, false, true, true, true, true, false, false, true, true, true, false, false, false, false] (putsL fr SL vs) W := by
        intro vs W hW h71 b56 b61 b66
        refine wpAny_scrs hR (rs := [2, 17]) (by kernel_rfl) (by simp) ?_
        refine AllReady.cons rfl (fun K hK => ?_) ?_
        · refine step_call1 rfl 15 HF7 (.tmp 56) _ rfl (HEV 56 vs m56 (by decide)) (HSM W _ _ D2 hW b56 (unhide SD)) ?_
          refine hK _ _ ?_
          show wpAny _ _ _ _ _ _ ((putsL fr SL vs).put (some 57) _) _
          rw [putsL_put m57]
          rw [← hR]
          exact T1_012 _ _ hW ((updV_ne (by decide)).trans h71) (by rw [updV_ne (by decide)]; exact b61) (by rw [updV_ne (by decide)]; exact b66) updV_eq
        refine AllReady.cons rfl (fun K hK => ?_) ?_
        · refine step_lit1 rfl (.tmp 71) rfl ((HEV 71 vs m71 (by decide)).trans h71) ?_
          refine hK _ _ ?_
          rw [← hR]
          show R _ _ ((putsL fr SL vs).put (some 72) _) _
          rw [putsL_put m72]
          exact T0_0123 _ _ (below_alloc hW) (by rw [updV_ne (by decide)]; exact b56.alloc _) (by rw [updV_ne (by decide)]; exact b61.alloc _) (by rw [updV_ne (by decide)]; exact b66.alloc _) (by rw [updV_eq]; exact isBB_base (unhide IC) hW rfl)
        exact AllReady.nil
      have T0_013 : ∀ (vs : Nat → Value) (W : World), Below wr.heap.size wr W → vs 65 = .slice ba k bcap → IsBB W (vs 56) [lay xa xb xc k] → IsBB W (vs 61) [xa.take k] → IsBB W (vs 72) [xc.take k] → R 8 #[true, true, false, true, true, true, true, false, true, true, true, false, false, false, true, true, true, true, false, false, false] (putsL fr SL vs) W := by
        intro vs W hW h65 b56 b61 b72
        refine wpAny_scrs hR (rs := [2, 11]) (by kernel_rfl) (by simp) ?_
        refine AllReady.cons rfl (fun K hK => ?_) ?_
        · refine step_call1 rfl 15 HF7 (.tmp 56) _ rfl (HEV 56 vs m56 (by decide)) (HSM W _ _ D2 hW b56 (unhide SD)) ?_
          refine hK _ _ ?_
          show wpAny _ _ _ _ _ _ ((putsL fr SL vs).put (some 57) _) _
          rw [putsL_put m57]
          rw [← hR]
          exact T1_013 _ _ hW ((updV_ne (by decide)).trans h65) (by rw [updV_ne (by decide)]; exact b61) (by rw [updV_ne (by decide)]; exact b72) updV_eq
        refine AllReady.cons rfl (fun K hK => ?_) ?_
        · refine step_lit1 rfl (.tmp 65) rfl ((HEV 65 vs m65 (by decide)).trans h65) ?_
          refine hK _ _ ?_
          rw [← hR]
          show R _ _ ((putsL fr SL vs).put (some 66) _) _
          rw [putsL_put m66]
          exact T0_0123 _ _ (below_alloc hW) (by rw [updV_ne (by decide)]; exact b56.alloc _) (by rw [updV_ne (by decide)]; exact b61.alloc _) (by rw [updV_eq]; exact isBB_base (unhide IB) hW rfl) (by rw [updV_ne (by decide)]; exact b72.alloc _)
        exact AllReady.nil
      have T0_023 : ∀ (vs : Nat → Value) (W : World), Below wr.heap.size wr W → vs 60 = .slice aa k acap → IsBB W (vs 56) [lay xa xb xc k] → IsBB W (vs 66) [xb.take k] → IsBB W (vs 72) [xc.take k] → R 8 #[true, true, false, true, true, true, false, false, true, true, true, true, false, false, true, true, true, true, false, false, false] (putsL fr SL vs) W := by
        intro vs W hW h60 b56 b66 b72
        refine wpAny_scrs hR (rs := [2, 6]) (by kernel_rfl) (by simp) ?_
        refine AllReady.cons rfl (fun K hK => ?_) ?_
        · refine step_call1 rfl 15 HF7 (.tmp 56) _ rfl (HEV 56 vs m56 (by decide)) (HSM W _ _ D2 hW b56 (unhide SD)) ?_
          refine hK _ _ ?_
          show wpAny _ _ _ _ _ _ ((putsL fr SL vs).put (some 57) _) _
          rw [putsL_put m57]
          rw [← hR]
          exact T1_023 _ _ hW ((updV_ne (by decide)).trans h60) (by rw [updV_ne (by decide)]; exact b66) (by rw [updV_ne (by decide)]; exact b72) updV_eq
        refine AllReady.cons rfl (fun K hK => ?_) ?_
        · refine step_lit1 rfl (.tmp 60) rfl ((HEV 60 vs m60 (by decide)).trans h60) ?_
          refine hK _ _ ?_
          rw [← hR]
          show R _ _ ((putsL fr SL vs).put (some 61) _) _
          rw [putsL_put m61]
          exact T0_0123 _ _ (below_alloc hW) (by rw [updV_ne (by decide)]; exact b56.alloc _) (by rw [updV_eq]; exact isBB_base (unhide IA) hW rfl) (by rw [updV_ne (by decide)]; exact b66.alloc _) (by rw [updV_ne (by decide)]; exact b72.alloc _)
        exact AllReady.nil
      have T0_123 : ∀ (vs : Nat → Value) (W : World), Below wr.heap.size wr W → vs 55 = .slice da dm dc → IsBB W (vs 61) [xa.take k] → IsBB W (vs 66) [xb.take k] → IsBB W (vs 72) [xc.take k] → R 8 #[true, false, false, true, true, true, true, false, true, true, true, true, false, false, true, true, true, true, false, false, false] (putsL fr SL vs) W := by
        intro vs W hW h55 b61 b66 b72
        refine wpAny_scrs hR (rs := [1]) (by kernel_rfl) (by simp) ?_
        refine AllReady.cons rfl (fun K hK => ?_) ?_
        · refine step_lit1 rfl (.tmp 55) rfl ((HEV 55 vs m55 (by decide)).trans h55) ?_
          refine hK _ _ ?_
          rw [← hR]
          show R _ _ ((putsL fr SL vs).put (some 56) _) _
          rw [putsL_put m56]
          exact T0_0123 _ _ (below_alloc hW) (by rw [updV_eq]; exact isBB_base (unhide IOh) hW rfl) (by rw [updV_ne (by decide)]; exact b61.alloc _) (by rw [updV_ne (by decide)]; exact b66.alloc _) (by rw [updV_ne (by decide)]; exact b72.alloc _)
        exact AllReady.nil
      have T1_0 : ∀ (vs : Nat → Value) (W : World), Below wr.heap.size wr W → vs 60 = .slice aa k acap → vs 65 = .slice ba k bcap → vs 71 = .slice ca k ccap → vs 57 = .int .u32 (D2 : Int) → R 9 #[true, true, true, true, true, true, false, false, true, true, true, false, false, false, true, true, true, false, false, false, false] (putsL fr SL vs) W := by
        intro vs W hW h60 h65 h71 c57
        refine wpAny_scrs hR (rs := [6, 11, 17]) (by kernel_rfl) (by simp) ?_
        refine AllReady.cons rfl (fun K hK => ?_) ?_
        · refine step_lit1 rfl (.tmp 60) rfl ((HEV 60 vs m60 (by decide)).trans h60) ?_
          refine hK _ _ ?_
          rw [← hR]
          show R _ _ ((putsL fr SL vs).put (some 61) _) _
          rw [putsL_put m61]
          exact T1_01 _ _ (below_alloc hW) ((updV_ne (by decide)).trans h65) ((updV_ne (by decide)).trans h71) (by rw [updV_eq]; exact isBB_base (unhide IA) hW rfl) ((updV_ne (by decide)).trans c57)
        refine AllReady.cons rfl (fun K hK => ?_) ?_
        · refine step_lit1 rfl (.tmp 65) rfl ((HEV 65 vs m65 (by decide)).trans h65) ?_
          refine hK _ _ ?_
          rw [← hR]
          show R _ _ ((putsL fr SL vs).put (some 66) _) _
          rw [putsL_put m66]
          exact T1_02 _ _ (below_alloc hW) ((updV_ne (by decide)).trans h60) ((updV_ne (by decide)).trans h71) (by rw [updV_eq]; exact isBB_base (unhide IB) hW rfl) ((updV_ne (by decide)).trans c57)
        refine AllReady.cons rfl (fun K hK => ?_) ?_
        · refine step_lit1 rfl (.tmp 71) rfl ((HEV 71 vs m71 (by decide)).trans h71) ?_
          refine hK _ _ ?_
          rw [← hR]
          show R _ _ ((putsL fr SL vs).put (some 72) _) _
          rw [putsL_put m72]
          exact T1_03 _ _ (below_alloc hW) ((updV_ne (by decide)).trans h60) ((updV_ne (by decide)).trans h65) (by rw [updV_eq]; exact isBB_base (unhide IC) hW rfl) ((updV_ne (by decide)).trans c57)
        exact AllReady.nil
      have T0_01 : ∀ (vs : Nat → Value) (W : World), Below wr.heap.size wr W → vs 65 = .slice ba k bcap → vs 71 = .slice ca k ccap → IsBB W (vs 56) [lay xa xb xc k] → IsBB W (vs 61) [xa.take k] → R 9 #[true, true, false, true, true, true, true, false, true, true, true, false, false, false, true, true, true, false, false, false, false] (putsL fr SL vs) W := by
        intro vs W hW h65 h71 b56 b61
        refine wpAny_scrs hR (rs := [2, 11, 17]) (by kernel_rfl) (by simp) ?_
        refine AllReady.cons rfl (fun K hK => ?_) ?_
        · refine step_call1 rfl 15 HF7 (.tmp 56) _ rfl (HEV 56 vs m56 (by decide)) (HSM W _ _ D2 hW b56 (unhide SD)) ?_
          refine hK _ _ ?_
          show wpAny _ _ _ _ _ _ ((putsL fr SL vs).put (some 57) _) _
          rw [putsL_put m57]
          rw [← hR]
          exact T1_01 _ _ hW ((updV_ne (by decide)).trans h65) ((updV_ne (by decide)).trans h71) (by rw [updV_ne (by decide)]; exact b61) updV_eq
        refine AllReady.cons rfl (fun K hK => ?_) ?_
        · refine step_lit1 rfl (.tmp 65) rfl ((HEV 65 vs m65 (by decide)).trans h65) ?_
          refine hK _ _ ?_
          rw [← hR]
          show R _ _ ((putsL fr SL vs).put (some 66) _) _
          rw [putsL_put m66]
          exact T0_012 _ _ (below_alloc hW) ((updV_ne (by decide)).trans h71) (by rw [updV_ne (by decide)]; exact b56.alloc _) (by rw [updV_ne (by decide)]; exact b61.alloc _) (by rw [updV_eq]; exact isBB_base (unhide IB) hW rfl)
        refine AllReady.cons rfl (fun K hK => ?_) ?_
        · refine step_lit1 rfl (.tmp 71) rfl ((HEV 71 vs m71 (by decide)).trans h71) ?_
          refine hK _ _ ?_
          rw [← hR]
          show R _ _ ((putsL fr SL vs).put (some 72) _) _
          rw [putsL_put m72]
          exact T0_013 _ _ (below_alloc hW) ((updV_ne (by decide)).trans h65) (by rw [updV_ne (by decide)]; exact b56.alloc _) (by rw [updV_ne (by decide)]; exact b61.alloc _) (by rw [updV_eq]; exact isBB_base (unhide IC) hW rfl)
        exact AllReady.nil
      have T0_02 : ∀ (vs : Nat → Value) (W : World), Below wr.heap.size wr W → vs 60 = .slice aa k acap → vs 71 = .slice ca k ccap → IsBB W (vs 56) [lay xa xb xc k] → IsBB W (vs 66) [xb.take k] → R 9 #[true, true, false, true, true, true, false, false, true, true, true, true, false, false, true, true, true, false, false, false, false] (putsL fr SL vs) W := by
        intro vs W hW h60 h71 b56 b66
        refine wpAny_scrs hR (rs := [2, 6, 17]) (by kernel_rfl) (by simp) ?_
        refine AllReady.cons rfl (fun K hK => ?_) ?_
        · refine step_call1 rfl 15 HF7 (.tmp 56) _ rfl (HEV 56 vs m56 (by decide)) (HSM W _ _ D2 hW b56 (unhide SD)) ?_
          refine hK _ _ ?_
          show wpAny _ _ _ _ _ _ ((putsL fr SL vs).put (some 57) _) _
          rw [putsL_put m57]
          rw [← hR]
          exact T1_02 _ _ hW ((updV_ne (by decide)).trans h60) ((updV_ne (by decide)).trans h71) (by rw [updV_ne (by decide)]; exact b66) updV_eq
        refine AllReady.cons rfl (fun K hK => ?_) ?_
        · refine step_lit1 rfl (.tmp 60) rfl ((HEV 60 vs m60 (by decide)).trans h60) ?_
          refine hK _ _ ?_
          rw [← hR]
          show R _ _ ((putsL fr SL vs).put (some 61) _) _
          rw [putsL_put m61]
          exact T0_012 _ _ (below_alloc hW) ((updV_ne (by decide)).trans h71) (by rw [updV_ne (by decide)]; exact b56.alloc _) (by rw [updV_eq]; exact isBB_base (unhide IA) hW rfl) (by rw [updV_ne (by decide)]; exact b66.alloc _)
        refine AllReady.cons rfl (fun K hK => ?_) ?_
        · refine step_lit1 rfl (.tmp 71) rfl ((HEV 71 vs m71 (by decide)).trans h71) ?_
          refine hK _ _ ?_
          rw [← hR]
          show R _ _ ((putsL fr SL vs).put (some 72) _) _
          rw [putsL_put m72]
          exact T0_023 _ _ (below_alloc hW) ((updV_ne (by decide)).trans h60) (by rw [updV_ne (by decide)]; exact b56.alloc _) (by rw [updV_ne (by decide)]; exact b66.alloc _) (by rw [updV_eq]; exact isBB_base (unhide IC) hW rfl)
        exact AllReady.nil
      have T0_12 : ∀ (vs : Nat → Value) (W : World), Below wr.heap.size wr W → vs 55 = .slice da dm dc → vs 71 = .slice ca k ccap → IsBB W (vs 61) [xa.take k] → IsBB W (vs 66) [xb.take k] → R 9 #[true, false, false, true, true, true, true, false, true, true, true, true, false, false, true, true, true, false, false, false, false] (putsL fr SL vs) W := by
        intro vs W hW h55 h71 b61 b66
        refine wpAny_scrs hR (rs := [1, 17]) (by kernel_rfl) (by simp) ?_
        refine AllReady.cons rfl (fun K hK => ?_) ?_
        · refine step_lit1 rfl (.tmp 55) rfl ((HEV 55 vs m55 (by decide)).trans h55) ?_
          refine hK _ _ ?_
          rw [← hR]
          show R _ _ ((putsL fr SL vs).put (some 56) _) _
          rw [putsL_put m56]
          exact T0_012 _ _ (below_alloc hW) ((updV_ne (by decide)).trans h71) (by rw [updV_eq]; exact isBB_base (unhide IOh) hW rfl) (by rw [updV_ne (by decide)]; exact b61.alloc _) (by rw [updV_ne (by decide)]; exact b66.alloc _)
        refine AllReady.cons rfl (fun K hK => ?_) ?_
        · refine step_lit1 rfl (.tmp 71) rfl ((HEV 71 vs m71 (by decide)).trans h71) ?_
          refine hK _ _ ?_
          rw [← hR]
          show R _ _ ((putsL fr SL vs).put (some 72) _) _
          rw [putsL_put m72]
          exact T0_123 _ _ (below_alloc hW) ((updV_ne (by decide)).trans h55) (by rw [updV_ne (by decide)]; exact b61.alloc _) (by rw [updV_ne (by decide)]; exact b66.alloc _) (by rw [updV_eq]; exact isBB_base (unhide IC) hW rfl)
        exact AllReady.nil
      have T0_03 : ∀ (vs : Nat → Value) (W : World), Below wr.heap.size wr W → vs 60 = .slice aa k acap → vs 65 = .slice ba k bcap → IsBB W (vs 56) [lay xa xb xc k] → IsBB W (vs 72) [xc.take k] → R 9 #[true, true, false, true, true, true, false, false, true, true, true, false, false, false, true, true, true, true, false, false, false] (putsL fr SL vs) W := by
        intro vs W hW h60 h65 b56 b72
        refine wpAny_scrs hR (rs := [2, 6, 11]) (by kernel_rfl) (by simp) ?_
        refine AllReady.cons rfl (fun K hK => ?_) ?_
        · refine step_call1 rfl 15 HF7 (.tmp 56) _ rfl (HEV 56 vs m56 (by decide)) (HSM W _ _ D2 hW b56 (unhide SD)) ?_
          refine hK _ _ ?_
          show wpAny _ _ _ _ _ _ ((putsL fr SL vs).put (some 57) _) _
          rw [putsL_put m57]
          rw [← hR]
          exact T1_03 _ _ hW ((updV_ne (by decide)).trans h60) ((updV_ne (by decide)).trans h65) (by rw [updV_ne (by decide)]; exact b72) updV_eq
        refine AllReady.cons rfl (fun K hK => ?_) ?_
        · refine step_lit1 rfl (.tmp 60) rfl ((HEV 60 vs m60 (by decide)).trans h60) ?_
          refine hK _ _ ?_
          rw [← hR]
          show R _ _ ((putsL fr SL vs).put (some 61) _) _
          rw [putsL_put m61]
          exact T0_013 _ _ (below_alloc hW) ((updV_ne (by decide)).trans h65) (by rw [updV_ne (by decide)]; exact b56.alloc _) (by rw [updV_eq]; exact isBB_base (unhide IA) hW rfl) (by rw [updV_ne (by decide)]; exact b72.alloc _)
        refine AllReady.cons rfl (fun K hK => ?_) ?_
        · refine step_lit1 rfl (.tmp 65) rfl ((HEV 65 vs m65 (by decide)).trans h65) ?_
          refine hK _ _ ?_
          rw [← hR]
          show R _ _ ((putsL fr SL vs).put (some 66) _) _
          rw [putsL_put m66]
          exact T0_023 _ _ (below_alloc hW) ((updV_ne (by decide)).trans h60) (by rw [updV_ne (by decide)]; exact b56.alloc _) (by rw [updV_eq]; exact isBB_base (unhide IB) hW rfl) (by rw [updV_ne (by decide)]; exact b72.alloc _)
        exact AllReady.nil
      have T0_13 : ∀ (vs : Nat → Value) (W : World), Below wr.heap.size wr W → vs 55 = .slice da dm dc → vs 65 = .slice ba k bcap → IsBB W (vs 61) [xa.take k] → IsBB W (vs 72) [xc.take k] → R 9 #[true, false, false, true, true, true, true, false, true, true, true, false, false, false, true, true, true, true, false, false, false] (putsL fr SL vs) W := by
        intro vs W hW h55 h65 b61 b72
        refine wpAny_scrs hR (rs := [1, 11]) (by kernel_rfl) (by simp) ?_
        refine AllReady.cons rfl (fun K hK => ?_) ?_
        · refine step_lit1 rfl (.tmp 55) rfl ((HEV 55 vs m55 (by decide)).trans h55) ?_
          refine hK _ _ ?_
          rw [← hR]
          show R _ _ ((putsL fr SL vs).put (some 56) _) _
          rw [putsL_put m56]
          exact T0_013 _ _ (below_alloc hW) ((updV_ne (by decide)).trans h65) (by rw [updV_eq]; exact isBB_base (unhide IOh) hW rfl) (by rw [updV_ne (by decide)]; exact b61.alloc _) (by rw [updV_ne (by decide)]; exact b72.alloc _)
        refine AllReady.cons rfl (fun K hK => ?_) ?_
        · refine step_lit1 rfl (.tmp 65) rfl ((HEV 65 vs m65 (by decide)).trans h65) ?_
          refine hK _ _ ?_
          rw [← hR]
          show R _ _ ((putsL fr SL vs).put (some 66) _) _
          rw [putsL_put m66]
          exact T0_123 _ _ (below_alloc hW) ((updV_ne (by decide)).trans h55) (by rw [updV_ne (by decide)]; exact b61.alloc _) (by rw [updV_eq]; exact isBB_base (unhide IB) hW rfl) (by rw [updV_ne (by decide)]; exact b72.alloc _)
        exact AllReady.nil
      have T0_23 : ∀ (vs : Nat → Value) (W : World), Below wr.heap.size wr W → vs 55 = .slice da dm dc → vs 60 = .slice aa k acap → IsBB W (vs 66) [xb.take k] → IsBB W (vs 72) [xc.take k] → R 9 #[true, false, false, true, true, true, false, false, true, true, true, true, false, false, true, true, true, true, false, false, false] (putsL fr SL vs) W := by
        intro vs W hW h55 h60 b66 b72
        refine wpAny_scrs hR (rs := [1, 6]) (by kernel_rfl) (by simp) ?_
        refine AllReady.cons rfl (fun K hK => ?_) ?_
        · refine step_lit1 rfl (.tmp 55) rfl ((HEV 55 vs m55 (by decide)).trans h55) ?_
          refine hK _ _ ?_
          rw [← hR]
          show R _ _ ((putsL fr SL vs).put (some 56) _) _
          rw [putsL_put m56]
          exact T0_023 _ _ (below_alloc hW) ((updV_ne (by decide)).trans h60) (by rw [updV_eq]; exact isBB_base (unhide IOh) hW rfl) (by rw [updV_ne (by decide)]; exact b66.alloc _) (by rw [updV_ne (by decide)]; exact b72.alloc _)
        refine AllReady.cons rfl (fun K hK => ?_) ?_
        · refine step_lit1 rfl (.tmp 60) rfl ((HEV 60 vs m60 (by decide)).trans h60) ?_
          refine hK _ _ ?_
          rw [← hR]
          show R _ _ ((putsL fr SL vs).put (some 61) _) _
          rw [putsL_put m61]
          exact T0_123 _ _ (below_alloc hW) ((updV_ne (by decide)).trans h55) (by rw [updV_eq]; exact isBB_base (unhide IA) hW rfl) (by rw [updV_ne (by decide)]; exact b66.alloc _) (by rw [updV_ne (by decide)]; exact b72.alloc _)
        exact AllReady.nil
      have T0_0 : ∀ (vs : Nat → Value) (W : World), Below wr.heap.size wr W → vs 60 = .slice aa k acap → vs 65 = .slice ba k bcap → vs 71 = .slice ca k ccap → IsBB W (vs 56) [lay xa xb xc k] → R 10 #[true, true, false, true, true, true, false, false, true, true, true, false, false, false, true, true, true, false, false, false, false] (putsL fr SL vs) W := by
        intro vs W hW h60 h65 h71 b56
        refine wpAny_scrs hR (rs := [2, 6, 11, 17]) (by kernel_rfl) (by simp) ?_
        refine AllReady.cons rfl (fun K hK => ?_) ?_
        · refine step_call1 rfl 15 HF7 (.tmp 56) _ rfl (HEV 56 vs m56 (by decide)) (HSM W _ _ D2 hW b56 (unhide SD)) ?_
          refine hK _ _ ?_
          show wpAny _ _ _ _ _ _ ((putsL fr SL vs).put (some 57) _) _
          rw [putsL_put m57]
          rw [← hR]
          exact T1_0 _ _ hW ((updV_ne (by decide)).trans h60) ((updV_ne (by decide)).trans h65) ((updV_ne (by decide)).trans h71) updV_eq
        refine AllReady.cons rfl (fun K hK => ?_) ?_
        · refine step_lit1 rfl (.tmp 60) rfl ((HEV 60 vs m60 (by decide)).trans h60) ?_
          refine hK _ _ ?_
          rw [← hR]
          show R _ _ ((putsL fr SL vs).put (some 61) _) _
          rw [putsL_put m61]
          exact T0_01 _ _ (below_alloc hW) ((updV_ne (by decide)).trans h65) ((updV_ne (by decide)).trans h71) (by rw [updV_ne (by decide)]; exact b56.alloc _) (by rw [updV_eq]; exact isBB_base (unhide IA) hW rfl)
        refine AllReady.cons rfl (fun K hK => ?_) ?_
        · refine step_lit1 rfl (.tmp 65) rfl ((HEV 65 vs m65 (by decide)).trans h65) ?_
          refine hK _ _ ?_
          rw [← hR]
          show R _ _ ((putsL fr SL vs).put (some 66) _) _
          rw [putsL_put m66]
          exact T0_02 _ _ (below_alloc hW) ((updV_ne (by decide)).trans h60) ((updV_ne (by decide)).trans h71) (by rw [updV_ne (by decide)]; exact b56.alloc _) (by rw [updV_eq]; exact isBB_base (unhide IB) hW rfl)
        refine AllReady.cons rfl (fun K hK => ?_) ?_
        · refine step_lit1 rfl (.tmp 71) rfl ((HEV 71 vs m71 (by decide)).trans h71) ?_
          refine hK _ _ ?_
          rw [← hR]
          show R _ _ ((putsL fr SL vs).put (some 72) _) _
          rw [putsL_put m72]
          exact T0_03 _ _ (below_alloc hW) ((updV_ne (by decide)).trans h60) ((updV_ne (by decide)).trans h65) (by rw [updV_ne (by decide)]; exact b56.alloc _) (by rw [updV_eq]; exact isBB_base (unhide IC) hW rfl)
        exact AllReady.nil
      have T0_1 : ∀ (vs : Nat → Value) (W : World), Below wr.heap.size wr W → vs 55 = .slice da dm dc → vs 65 = .slice ba k bcap → vs 71 = .slice ca k ccap → IsBB W (vs 61) [xa.take k] → R 10 #[true, false, false, true, true, true, true, false, true, true, true, false, false, false, true, true, true, false, false, false, false] (putsL fr SL vs) W := by
        intro vs W hW h55 h65 h71 b61
        refine wpAny_scrs hR (rs := [1, 11, 17]) (by kernel_rfl) (by simp) ?_
        refine AllReady.cons rfl (fun K hK => ?_) ?_
        · refine step_lit1 rfl (.tmp 55) rfl ((HEV 55 vs m55 (by decide)).trans h55) ?_
          refine hK _ _ ?_
          rw [← hR]
          show R _ _ ((putsL fr SL vs).put (some 56) _) _
          rw [putsL_put m56]
          exact T0_01 _ _ (below_alloc hW) ((updV_ne (by decide)).trans h65) ((updV_ne (by decide)).trans h71) (by rw [updV_eq]; exact isBB_base (unhide IOh) hW rfl) (by rw [updV_ne (by decide)]; exact b61.alloc _)
        refine AllReady.cons rfl (fun K hK => ?_) ?_
        · refine step_lit1 rfl (.tmp 65) rfl ((HEV 65 vs m65 (by decide)).trans h65) ?_
          refine hK _ _ ?_
          rw [← hR]
          show R _ _ ((putsL fr SL vs).put (some 66) _) _
          rw [putsL_put m66]
          exact T0_12 _ _ (below_alloc hW) ((updV_ne (by decide)).trans h55) ((updV_ne (by decide)).trans h71) (by rw [updV_ne (by decide)]; exact b61.alloc _) (by rw [updV_eq]; exact isBB_base (unhide IB) hW rfl)
        refine AllReady.cons rfl (fun K hK => ?_) ?_
        · refine step_lit1 rfl (.tmp 71) rfl ((HEV 71 vs m71 (by decide)).trans h71) ?_
          refine hK _ _ ?_
          rw [← hR]
          show R _ _ ((putsL fr SL vs).put (some 72) _) _
          rw [putsL_put m72]
          exact T0_13 _ _ (below_alloc hW) ((updV_ne (by decide)).trans h55) ((updV_ne (by decide)).trans h65) (by rw [updV_ne (by decide)]; exact b61.alloc _) (by rw [updV_eq]; exact isBB_base (unhide IC) hW rfl)
        exact AllReady.nil
      have T0_2 : ∀ (vs : Nat → Value) (W : World), Below wr.heap.size wr W → vs 55 = .slice da dm dc → vs 60 = .slice aa k acap → vs 71 = .slice ca k ccap → IsBB W (vs 66) [xb.take k] → R 10 #[true, false, false, true, true, true, false, false, true, true, true, true, false, false, true, true, true, false, false, false, false] (putsL fr SL vs) W := by
        intro vs W hW h55 h60 h71 b66
        refine wpAny_scrs hR (rs := [1, 6, 17]) (by kernel_rfl) (by simp) ?_
        refine AllReady.cons rfl (fun K hK => ?_) ?_
        · refine step_lit1 rfl (.tmp 55) rfl ((HEV 55 vs m55 (by decide)).trans h55) ?_
          refine hK _ _ ?_
          rw [← hR]
          show R _ _ ((putsL fr SL vs).put (some 56) _) _
          rw [putsL_put m56]
          exact T0_02 _ _ (below_alloc hW) ((updV_ne (by decide)).trans h60) ((updV_ne (by decide)).trans h71) (by rw [updV_eq]; exact isBB_base (unhide IOh) hW rfl) (by rw [updV_ne (by decide)]; exact b66.alloc _)
        refine AllReady.cons rfl (fun K hK => ?_) ?_
        · refine step_lit1 rfl (.tmp 60) rfl ((HEV 60 vs m60 (by decide)).trans h60) ?_
          refine hK _ _ ?_
          rw [← hR]
          show R _ _ ((putsL fr SL vs).put (some 61) _) _
          rw [putsL_put m61]
          exact T0_12 _ _ (below_alloc hW) ((updV_ne (by decide)).trans h55) ((updV_ne (by decide)).trans h71) (by rw [updV_eq]; exact isBB_base (unhide IA) hW rfl) (by rw [updV_ne (by decide)]; exact b66.alloc _)
        refine AllReady.cons rfl (fun K hK => ?_) ?_
        · refine step_lit1 rfl (.tmp 71) rfl ((HEV 71 vs m71 (by decide)).trans h71) ?_
          refine hK _ _ ?_
          rw [← hR]
          show R _ _ ((putsL fr SL vs).put (some 72) _) _
          rw [putsL_put m72]
          exact T0_23 _ _ (below_alloc hW) ((updV_ne (by decide)).trans h55) ((updV_ne (by decide)).trans h60) (by rw [updV_ne (by decide)]; exact b66.alloc _) (by rw [updV_eq]; exact isBB_base (unhide IC) hW rfl)
        exact AllReady.nil
      have T0_3 : ∀ (vs : Nat → Value) (W : World), Below wr.heap.size wr W → vs 55 = .slice da dm dc → vs 60 = .slice aa k acap → vs 65 = .slice ba k bcap → IsBB W (vs 72) [xc.take k] → R 10 #[true, false, false, true, true, true, false, false, true, true, true, false, false, false, true, true, true, true, false, false, false] (putsL fr SL vs) W := by
        intro vs W hW h55 h60 h65 b72
        refine wpAny_scrs hR (rs := [1, 6, 11]) (by kernel_rfl) (by simp) ?_
        refine AllReady.cons rfl (fun K hK => ?_) ?_
        · refine step_lit1 rfl (.tmp 55) rfl ((HEV 55 vs m55 (by decide)).trans h55) ?_
          refine hK _ _ ?_
          rw [← hR]
          show R _ _ ((putsL fr SL vs).put (some 56) _) _
          rw [putsL_put m56]
          exact T0_03 _ _ (below_alloc hW) ((updV_ne (by decide)).trans h60) ((updV_ne (by decide)).trans h65) (by rw [updV_eq]; exact isBB_base (unhide IOh) hW rfl) (by rw [updV_ne (by decide)]; exact b72.alloc _)
        refine AllReady.cons rfl (fun K hK => ?_) ?_
        · refine step_lit1 rfl (.tmp 60) rfl ((HEV 60 vs m60 (by decide)).trans h60) ?_
          refine hK _ _ ?_
          rw [← hR]
          show R _ _ ((putsL fr SL vs).put (some 61) _) _
          rw [putsL_put m61]
          exact T0_13 _ _ (below_alloc hW) ((updV_ne (by decide)).trans h55) ((updV_ne (by decide)).trans h65) (by rw [updV_eq]; exact isBB_base (unhide IA) hW rfl) (by rw [updV_ne (by decide)]; exact b72.alloc _)
        refine AllReady.cons rfl (fun K hK => ?_) ?_
        · refine step_lit1 rfl (.tmp 65) rfl ((HEV 65 vs m65 (by decide)).trans h65) ?_
          refine hK _ _ ?_
          rw [← hR]
          show R _ _ ((putsL fr SL vs).put (some 66) _) _
          rw [putsL_put m66]
          exact T0_23 _ _ (below_alloc hW) ((updV_ne (by decide)).trans h55) ((updV_ne (by decide)).trans h60) (by rw [updV_eq]; exact isBB_base (unhide IB) hW rfl) (by rw [updV_ne (by decide)]; exact b72.alloc _)
        exact AllReady.nil
      have T0_ : ∀ (vs : Nat → Value) (W : World), Below wr.heap.size wr W → vs 55 = .slice da dm dc → vs 60 = .slice aa k acap → vs 65 = .slice ba k bcap → vs 71 = .slice ca k ccap → R 11 #[true, false, false, true, true, true, false, false, true, true, true, false, false, false, true, true, true, false, false, false, false] (putsL fr SL vs) W := by
        intro vs W hW h55 h60 h65 h71
        refine wpAny_scrs hR (rs := [1, 6, 11, 17]) (by kernel_rfl) (by simp) ?_
        refine AllReady.cons rfl (fun K hK => ?_) ?_
        · refine step_lit1 rfl (.tmp 55) rfl ((HEV 55 vs m55 (by decide)).trans h55) ?_
          refine hK _ _ ?_
          rw [← hR]
          show R _ _ ((putsL fr SL vs).put (some 56) _) _
          rw [putsL_put m56]
          exact T0_0 _ _ (below_alloc hW) ((updV_ne (by decide)).trans h60) ((updV_ne (by decide)).trans h65) ((updV_ne (by decide)).trans h71) (by rw [updV_eq]; exact isBB_base (unhide IOh) hW rfl)
        refine AllReady.cons rfl (fun K hK => ?_) ?_
        · refine step_lit1 rfl (.tmp 60) rfl ((HEV 60 vs m60 (by decide)).trans h60) ?_
          refine hK _ _ ?_
          rw [← hR]
          show R _ _ ((putsL fr SL vs).put (some 61) _) _
          rw [putsL_put m61]
          exact T0_1 _ _ (below_alloc hW) ((updV_ne (by decide)).trans h55) ((updV_ne (by decide)).trans h65) ((updV_ne (by decide)).trans h71) (by rw [updV_eq]; exact isBB_base (unhide IA) hW rfl)
        refine AllReady.cons rfl (fun K hK => ?_) ?_
        · refine step_lit1 rfl (.tmp 65) rfl ((HEV 65 vs m65 (by decide)).trans h65) ?_
          refine hK _ _ ?_
          rw [← hR]
          show R _ _ ((putsL fr SL vs).put (some 66) _) _
          rw [putsL_put m66]
          exact T0_2 _ _ (below_alloc hW) ((updV_ne (by decide)).trans h55) ((updV_ne (by decide)).trans h60) ((updV_ne (by decide)).trans h71) (by rw [updV_eq]; exact isBB_base (unhide IB) hW rfl)
        refine AllReady.cons rfl (fun K hK => ?_) ?_
        · refine step_lit1 rfl (.tmp 71) rfl ((HEV 71 vs m71 (by decide)).trans h71) ?_
          refine hK _ _ ?_
          rw [← hR]
          show R _ _ ((putsL fr SL vs).put (some 72) _) _
          rw [putsL_put m72]
          exact T0_3 _ _ (below_alloc hW) ((updV_ne (by decide)).trans h55) ((updV_ne (by decide)).trans h60) ((updV_ne (by decide)).trans h65) (by rw [updV_eq]; exact isBB_base (unhide IC) hW rfl)
        exact AllReady.nil
      have hst := putsL_start fr SL
      generalize (fun d => fr.tmps.getD d undef) = vs0 at hst
      rw [hR, hst]
      refine wpAny_scr 0 55 (.slice da dm dc) rfl rfl m55 (by kernel_rfl) (by kernel_rfl) (by kernel_rfl) (fun _ _ _ h => h) (yields_move rfl rfl (f10 _)) ?_
      refine wpAny_scr 3 58 (.slice aa am acap) rfl rfl m58 (by kernel_rfl) (by kernel_rfl) (by kernel_rfl) (fun _ _ _ h => h) (yields_move rfl rfl (f1 _)) ?_
      refine wpAny_scr 4 59 (.int .i64 (k : Int)) rfl rfl m59 (by kernel_rfl) (by kernel_rfl) (by kernel_rfl) (fun _ _ _ h => h) (yields_move rfl rfl (f9 _)) ?_
      refine wpAny_scr 5 60 (.slice aa k acap) rfl rfl m60 (by kernel_rfl) (by kernel_rfl) (by kernel_rfl) (fun _ _ _ h => h) (yields_to rfl rfl ((HEV 58 _ m58 (by decide)).trans ((updV_ne (by decide)).trans updV_eq)) ((HEV 59 _ m59 (by decide)).trans updV_eq) hka) ?_
      refine wpAny_scr 8 63 (.slice ba bm bcap) rfl rfl m63 (by kernel_rfl) (by kernel_rfl) (by kernel_rfl) (fun _ _ _ h => h) (yields_move rfl rfl (f2 _)) ?_
      refine wpAny_scr 9 64 (.int .i64 (k : Int)) rfl rfl m64 (by kernel_rfl) (by kernel_rfl) (by kernel_rfl) (fun _ _ _ h => h) (yields_move rfl rfl (f9 _)) ?_
      refine wpAny_scr 10 65 (.slice ba k bcap) rfl rfl m65 (by kernel_rfl) (by kernel_rfl) (by kernel_rfl) (fun _ _ _ h => h) (yields_to rfl rfl ((HEV 63 _ m63 (by decide)).trans ((updV_ne (by decide)).trans updV_eq)) ((HEV 64 _ m64 (by decide)).trans updV_eq) hkb) ?_
      refine wpAny_scr 14 69 (.slice ca cm ccap) rfl rfl m69 (by kernel_rfl) (by kernel_rfl) (by kernel_rfl) (fun _ _ _ h => h) (yields_move rfl rfl (f3 _)) ?_
      refine wpAny_scr 15 70 (.int .i64 (k : Int)) rfl rfl m70 (by kernel_rfl) (by kernel_rfl) (by kernel_rfl) (fun _ _ _ h => h) (yields_move rfl rfl (f9 _)) ?_
      refine wpAny_scr 16 71 (.slice ca k ccap) rfl rfl m71 (by kernel_rfl) (by kernel_rfl) (by kernel_rfl) (fun _ _ _ h => h) (yields_to rfl rfl ((HEV 69 _ m69 (by decide)).trans ((updV_ne (by decide)).trans updV_eq)) ((HEV 70 _ m70 (by decide)).trans updV_eq) hkc) ?_
      rw [← hR]
      exact T0_ _ _ (Below.drew (Below.refl _ _)) ((updV_ne (by decide)).trans ((updV_ne (by decide)).trans ((updV_ne (by decide)).trans ((updV_ne (by decide)).trans ((updV_ne (by decide)).trans ((updV_ne (by decide)).trans ((updV_ne (by decide)).trans ((updV_ne (by decide)).trans ((updV_ne (by decide)).trans updV_eq))))))))) ((updV_ne (by decide)).trans ((updV_ne (by decide)).trans ((updV_ne (by decide)).trans ((updV_ne (by decide)).trans ((updV_ne (by decide)).trans ((updV_ne (by decide)).trans updV_eq)))))) ((updV_ne (by decide)).trans ((updV_ne (by decide)).trans ((updV_ne (by decide)).trans updV_eq))) updV_eq
end Go.Proofs.YtmfpkoegpoboiabDoor
