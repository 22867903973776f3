/- What RootLent answers. -/
import Derived.Test.YtpeopejnkbmcdaaDoorRtLa
namespace Go.Proofs.YtpeopejnkbmcdaaDoor
open Go.RowKit Go.Maps

set_option maxRecDepth 100000 in
set_option maxHeartbeats 8000000 in
theorem rootLent_walk {w : World} {s s2 : SL} (hs : s.Ok) (hs2 : s2.Ok) (ht : Tab w) : Calls Tryd.prog 5 #[.agg (slV s).toArray, .agg (slV s2).toArray] w fun e w' => e = .returned (.bool true) ∧ Below w.heap.size w w' := by
  have hinf := infoSof hs
  have hinf2 := infoSof hs2
  have HMY : Hid (∀ W, Calls Tryd.prog 12 #[.agg (slV s).toArray] W fun e w' => e = .returned (.bool s.may) ∧ Below W.heap.size W w') := hide (fun W => lmay_calls hs)
  have HMY2 : Hid (∀ W, Calls Tryd.prog 12 #[.agg (slV s2).toArray] W fun e w' => e = .returned (.bool s2.may) ∧ Below W.heap.size W w') := hide (fun W => lmay_calls hs2)
  have HST : Hid (∀ W, Below w.heap.size w W → Calls Tryd.prog 13 #[] W fun e w' => e = .returned (.bool true) ∧ Below W.heap.size W w') := hide (fun W hW => started_calls18 (ht.below hW))
  by_cases hm : s.May
  case neg =>
    rw [SL.may_no hm] at HMY
    generalize slV s = cs1 at *
    generalize slV s2 = cs2 at *
    clear hs hm ht hs2 HMY2
    go_enter Tryd.func5, Tryd.ntmps5
    go_wp2_with (first
      | (refine wpList_boxJ rfl 32 (.tmp 0) rfl rfl ?_; intro w1 hA1 hb1 hs1
         have HA1 := hide hA1
         have HB1 := hide hb1
         clear hA1 hb1 hs1)
      | (refine wpList_boxJ rfl 32 (.tmp 1) rfl rfl ?_; intro w2 hA2 hb2 hs2
         have hrg := (HA1.out.below hb2).rangeJ
         have HB2 := hide (below_then HB1.out hb2)
         clear hA2 hb2 hs2 HA1 HB1)
      | (refine wpList_loadJ rfl 32 (.tmp 2) rfl _ 0 rfl cs1 _ hrg Tryd.underlying32 rfl hinf ?_)
      | fail)
    refine (unhide HMY _).mono ?_
    rintro e w3 ⟨rfl, hb3⟩
    have HB3 := hide (below_then HB2.out hb3)
    clear hb3 hrg HMY HB2
    go_wp2_with fail
    refine (unhide HST _ HB3.out).mono ?_
    rintro e w4 ⟨rfl, hb4⟩
    have HB4 := hide (below_then HB3.out hb4)
    clear hb4 HST
    go_wp2
    go_ret
    exact ⟨rfl, HB4.out⟩
  case pos =>
  rw [(SL.may_iff s).2 hm] at HMY
  by_cases hm2 : s2.May
  case neg =>
    rw [SL.may_no hm2] at HMY2
    generalize slV s = cs1 at *
    generalize slV s2 = cs2 at *
    clear hs hm hm2 ht hs2
    go_enter Tryd.func5, Tryd.ntmps5
    go_wp2_with (first
      | (refine wpList_boxJ rfl 32 (.tmp 0) rfl rfl ?_; intro w1 hA1 hb1 hs1
         have HA1 := hide hA1
         have HB1 := hide hb1
         clear hA1 hb1 hs1)
      | (refine wpList_boxJ rfl 32 (.tmp 1) rfl rfl ?_; intro w2 hA2 hb2 hs2
         have hrg := (HA1.out.below hb2).rangeJ
         have HA2 := hide hA2
         have HB2 := hide (below_then HB1.out hb2)
         clear hA2 hb2 hs2 HA1 HB1)
      | (refine wpList_loadJ rfl 32 (.tmp 2) rfl _ 0 rfl cs1 _ hrg Tryd.underlying32 rfl hinf ?_)
      | fail)
    refine (unhide HMY _).mono ?_
    rintro e w3 ⟨rfl, hb3⟩
    have HB3 := hide (below_then HB2.out hb3)
    have hrg2 := (HA2.out.below hb3).rangeJ
    clear hb3 hrg HMY HB2 HA2
    go_wp2_with (first
      | (refine wpList_loadOnS (by rfl) 32 (.tmp 3) rfl _ 0 rfl cs2 _ hrg2 Tryd.underlying32 rfl hinf2 ?_)
      | fail)
    refine (unhide HMY2 _).mono ?_
    rintro e w4 ⟨rfl, hb4⟩
    have HB4 := hide (below_then HB3.out hb4)
    clear hb4 hrg2 HMY2 HB3
    go_wp2_with fail
    refine (unhide HST _ HB4.out).mono ?_
    rintro e w5 ⟨rfl, hb5⟩
    have HB5 := hide (below_then HB4.out hb5)
    clear hb5 HST
    go_wp2
    go_ret
    exact ⟨rfl, HB5.out⟩
  case pos =>
  rw [(SL.may_iff s2).2 hm2] at HMY2
  obtain ⟨i0, hi, hz0, hz1, hz2⟩ := info_parts infoSlL
  have HE1 : Hid (∀ W, Below w.heap.size w W → Calls Tryd.prog 11 #[.agg (slV s).toArray] W fun e w' => ∃ u, e = .returned (.tuple #[u, .int .i64 0]) ∧ Own8 w' W.heap.size u (slL s) ∧ Below W.heap.size W w') := hide (fun W hW => senc_good hs hm (ht.below hW))
  have HE2 : Hid (∀ W, Below w.heap.size w W → Calls Tryd.prog 11 #[.agg (slV s2).toArray] W fun e w' => ∃ u, e = .returned (.tuple #[u, .int .i64 0]) ∧ Own8 w' W.heap.size u (slL s2) ∧ Below W.heap.size W w') := hide (fun W hW => senc_good hs2 hm2 (ht.below hW))
  have HDE : Hid (∀ W v, Below w.heap.size w W → IsB W v (slL s) → Calls Tryd.prog 15 #[v] W fun e w' => e = .returned (.tuple #[.agg (slV s).toArray, .int .i64 0]) ∧ Below W.heap.size W w') := hide (fun W v hW hv => by
    have := sdec_calls hv (ht.below hW)
    obtain ⟨q1, q2⟩ := decSR_some (decS_sl hs hm)
    rw [q1, q2] at this
    exact this)
  have heq : ∀ W, (binOp .eql 32 (.agg (slV s).toArray) (.agg (slV s).toArray)).run Tryd.prog W = .ok (.bool true) W := fun W => by rw [slot_eql hs hs, slEq_refl]
  have hgd := fun op xx y xs ys W => slot_guard op xx y xs ys W
  have hlen : z105.length = (slV s).length := by rw [slV_len hs]; rfl
  have hone := slV_one s
  have HL1 : Hid ((slL s).length = 512) := hide (slL_len hs)
  have HL2 : Hid ((slL s2).length = 512) := hide (slL_len hs2)
  generalize slV s = cs1 at *
  generalize slV s2 = cs2 at *
  generalize slL s = b1 at *
  generalize slL s2 = b2 at *
  clear hs hm hm2 ht hs2 HST
  go_enter Tryd.func5, Tryd.ntmps5
  go_wp2_with (first
    | (refine wpList_boxJ rfl 32 (.tmp 0) rfl rfl ?_; intro w1 hA1 hb1 hs1
       have HA1 := hide hA1
       have HB1 := hide hb1
       clear hA1 hb1 hs1)
    | (refine wpList_boxJ rfl 32 (.tmp 1) rfl rfl ?_; intro w2 hA2 hb2 hs2
       have hrg := (HA1.out.below hb2).rangeJ
       have HAs := hide (HA1.out.below hb2)
       have HA2 := hide hA2
       have HB2 := hide (below_then HB1.out hb2)
       clear hA2 hb2 hs2 HA1 HB1)
    | (refine wpList_loadJ rfl 32 (.tmp 2) rfl _ 0 rfl cs1 _ hrg Tryd.underlying32 rfl hinf ?_)
    | fail)
  refine (unhide HMY _).mono ?_
  rintro e w3 ⟨rfl, hb3⟩
  have HB3 := hide (below_then HB2.out hb3)
  have hrg2 := (HA2.out.below hb3).rangeJ
  have HAs3 := hide (HAs.out.below hb3)
  have HA3 := hide (HA2.out.below hb3)
  clear hb3 hrg HMY HB2 HA2 HAs
  go_wp2_with (first
    | (refine wpList_loadOnS (by rfl) 32 (.tmp 3) rfl _ 0 rfl cs2 _ hrg2 Tryd.underlying32 rfl hinf2 ?_)
    | fail)
  refine (unhide HMY2 _).mono ?_
  rintro e w4 ⟨rfl, hb4⟩
  have HB4 := hide (below_then HB3.out hb4)
  have hrs4 := (HAs3.out.below hb4).rangeJ
  have HAs4 := hide (HAs3.out.below hb4)
  have HA4 := hide (HA3.out.below hb4)
  clear hb4 hrg2 HMY2 HB3 HAs3 HA3
  go_wp2_with (first
    | (refine wpList_loadJ rfl 32 (.tmp 2) rfl _ 0 rfl cs1 _ hrs4 Tryd.underlying32 rfl hinf ?_)
    | fail)
  refine (unhide HE1 _ HB4.out).mono ?_
  rintro e w5 ⟨u0, rfl, ho0, hb5⟩
  have HO5 := hide (own8_row ho0)
  have HT5 := hide (own8_row ho0).lt
  have HB5 := hide (below_then HB4.out hb5)
  have hrs5 := (HAs4.out.below hb5).rangeJ
  have HAs5 := hide (HAs4.out.below hb5)
  have HA5 := hide (HA4.out.below hb5)
  have HZ5 := hide hb5.size
  obtain ⟨a0, n0, c0, rfl⟩ := ho0.shape
  obtain rfl : n0 = 512 := by have := ho0.isB.lenEq; rw [HL1.out] at this; exact this
  clear hb5 ho0 HA4 hrs4
  go_wp2_with (first
    | (refine wpList_loadJ rfl 32 (.tmp 2) rfl _ 0 rfl cs1 _ hrs5 Tryd.underlying32 rfl hinf ?_)
    | fail)
  refine (unhide HE1 _ HB5.out).mono ?_
  rintro e w6 ⟨u1, rfl, ho1, hb6⟩
  have HO6 := hide (own8_row ho1)
  have HT6 := hide (own8_row ho1).lt
  have HI6 := hide ho1.isB
  have HO56 := hide (HO5.out.grown (show w5.grownBy w6 none from ⟨hb6.os, hb6.tape, hb6.output, hb6.size, fun k hk _ => hb6.block k hk⟩))
  have HB6 := hide (below_then HB5.out hb6)
  have hrs6 := (HA5.out.below hb6).rangeJ
  have HAs6 := hide (HAs5.out.below hb6)
  have HZ6 := hide hb6.size
  obtain ⟨a1, n1, c1, rfl⟩ := ho1.shape
  obtain rfl : n1 = 512 := by have := ho1.isB.lenEq; rw [HL1.out] at this; exact this
  clear hb6 ho1 HAs5 HA5 hrs5 HO5
  go_wp2_with (first
    | (refine wpList_loadJ rfl 32 (.tmp 3) rfl _ 0 rfl cs2 _ hrs6 Tryd.underlying32 rfl hinf2 ?_)
    | fail)
  refine (unhide HE2 _ HB6.out).mono ?_
  rintro e w7 ⟨u2, rfl, ho2, hb7⟩
  have hgn : w6.grownBy w7 none := ⟨hb7.os, hb7.tape, hb7.output, hb7.size, fun k hk _ => hb7.block k hk⟩
  have HO7 := hide (own8_row ho2)
  have HT7 := hide (own8_row ho2).lt
  have HI7 := hide (HI6.out.below hb7)
  have HO57 := hide (HO56.out.grown hgn)
  have HO67 := hide (HO6.out.grown hgn)
  have HB7 := hide (below_then HB6.out hb7)
  have hrs7 := (HAs6.out.below hb7).rangeJ
  have HAs7 := hide (HAs6.out.below hb7)
  have HZ7 := hide hb7.size
  obtain ⟨a2, n2, c2, rfl⟩ := ho2.shape
  obtain rfl : n2 = 512 := by have := ho2.isB.lenEq; rw [HL2.out] at this; exact this
  clear hb7 hgn ho2 HAs6 hrs6 HI6 HO56 HO6
  go_wp2_with (first
    | (refine wpList_loadJ rfl 32 (.tmp 2) rfl _ 0 rfl cs1 _ hrs7 Tryd.underlying32 rfl hinf ?_)
    | fail)
  refine (unhide HE1 _ HB7.out).mono ?_
  rintro e w8 ⟨u3, rfl, ho3, hb8⟩
  have hgn : w7.grownBy w8 none := ⟨hb8.os, hb8.tape, hb8.output, hb8.size, fun k hk _ => hb8.block k hk⟩
  have HO8 := hide (own8_row ho3)
  have HT8 := hide (own8_row ho3).lt
  have HI8 := hide (HI7.out.below hb8)
  have HO58 := hide (HO57.out.grown hgn)
  have HO68 := hide (HO67.out.grown hgn)
  have HO78 := hide (HO7.out.grown hgn)
  have HB8 := hide (below_then HB7.out hb8)
  have HAs8 := hide (HAs7.out.below hb8)
  have HZ8 := hide hb8.size
  obtain ⟨a3, n3, c3, rfl⟩ := ho3.shape
  obtain rfl : n3 = 512 := by have := ho3.isB.lenEq; rw [HL1.out] at this; exact this
  clear hb8 hgn ho3 HAs7 hrs7 HI7 HO57 HO67 HO7
  have HLI := hide (lines4 HO58.out HO68.out HO78.out HO8.out HT5.out HT6.out HT7.out HT8.out HZ5.out HZ6.out HZ7.out HZ8.out)
  have HBS : Hid (w4.heap.size ≤ w8.heap.size) := hide (by have := HZ5.out; have := HZ6.out; have := HZ7.out; have := HZ8.out; omega)
  have HG2 : Hid (w.heap.size ≤ w4.heap.size ∧ w.heap.size < w4.heap.size) := hide ⟨HB4.out.size, HAs4.out.lt⟩
  clear HO58 HO68 HO78 HO8 HT5 HT6 HT7 HT8 HZ5 HZ6 HZ7 HZ8 HE1 HE2 HAs4 HB4 HB5 HB6 HB7
  go_wp2_with fail
  refine (unhide HDE _ _ HB8.out HI8.out).mono ?_
  rintro e w9 ⟨rfl, hb9⟩
  have HQ : Hid (∀ w10, Arr w10 w9.heap.size 32 cs1 → (w9.alloc (.cells z105.toArray 32)).grownBy w10 (some w9.heap.size) → Lq w (w10.alloc (.cells #[.slice a0 512 c0, .slice a1 512 c1, .slice a2 512 c2, .slice a3 512 c3] 41)) w4.heap.size w8.heap.size w.heap.size w9.heap.size w10.heap.size [.slice a0 512 c0, .slice a1 512 c1, .slice a2 512 c2, .slice a3 512 c3] (U4 (.slice a0 512 c0) (.slice a1 512 c1) (.slice a2 512 c2) (.slice a3 512 c3)) (U4 (b1.map (Value.int .u8)) (b1.map (Value.int .u8)) (b2.map (Value.int .u8)) (b1.map (Value.int .u8))) cs1) := hide (fun w10 hA hg => by
    have hba := jalloc_below w9 (.cells z105.toArray 32)
    have hb := jbelow_grown hba hg hba.size (Nat.le_refl _)
    have hb89 := hb9.size
    exact lq_new rfl rfl rfl rfl ((HLI.out.below hb9).below hb) ((HAs8.out.below hb9).below hb) hA (below_then (below_then HB8.out hb9) hb) ⟨HG2.out.1, HG2.out.2, HBS.out, hb89⟩)
  have HLX : Hid (∀ k, k < 4 → (U4 (b1.map (Value.int .u8)) (b1.map (Value.int .u8)) (b2.map (Value.int .u8)) (b1.map (Value.int .u8)) k).length = 512) := hide (fun k hk => by
    match k, hk with
    | 0, _ => exact (List.length_map _).trans HL1.out
    | 1, _ => exact (List.length_map _).trans HL1.out
    | 2, _ => exact (List.length_map _).trans HL2.out
    | 3, _ => exact (List.length_map _).trans HL1.out)
  clear hb9 HI8 HDE HAs8 HB8 HLI
  go_upto_region 10 with (first
    | (refine wpList_allocJ rfl 32 rfl infoSlo ?_)
    | (refine wpList_storeJ rfl (.tmp 13) (.tmp 91) 32 rfl rfl rfl (Arr.new w9 z105 32) hinf hlen hone ?_; intro w10 hA10 hg10
       have HQ10 := hide (unhide HQ w10 hA10 hg10)
       clear hA10 hg10 HQ)
    | fail)
  go_wp2_with fail
  generalize w10.alloc (.cells #[.slice a0 512 c0, .slice a1 512 c1, .slice a2 512 c2, .slice a3 512 c3] 41) = w11 at *
  generalize w10.heap.size = gl at *
  generalize w9.heap.size = g13 at *
  generalize w8.heap.size = S at *
  generalize w4.heap.size = B at *
  generalize [Value.slice a0 512 c0, .slice a1 512 c1, .slice a2 512 c2, .slice a3 512 c3] = us at *
  generalize U4 (Value.slice a0 512 c0) (.slice a1 512 c1) (.slice a2 512 c2) (.slice a3 512 c3) = U at *
  generalize U4 (b1.map (Value.int .u8)) (b1.map (Value.int .u8)) (b2.map (Value.int .u8)) (b1.map (Value.int .u8)) = X at *
  go_loopw [16] (fun iv W => ∃ (i : Nat), i ≤ 4 ∧ iv = .int .i64 (i : Int) ∧ Hid (Lq w W B S w.heap.size g13 gl us U (RfL X i) cs1)) (fun iv _ => 4 - (intOf iv).toNat)
  case atStart => exact ⟨0, by decide, rfl, hide (HQ10.out.ext fun k hk => RfL_ge (by omega))⟩
  case round =>
    clear HQ10
    obtain ⟨i, hi4, rfl, HI⟩ := hrel
    by_cases hlt : i < 4
    case pos =>
      have hltI : (i : Int) < 4 := by omega
      go_wp2_with fail
      go_loopw [17] (fun jv W => ∃ (j : Nat), j ≤ 512 ∧ jv = .int .i64 (j : Int) ∧ Hid (Lq w W B S w.heap.size g13 gl us U (upd (RfL X i) i (marked (mL i) j (X i))) cs1)) (fun jv _ => 512 - (intOf jv).toNat)
      case atStart =>
        refine ⟨0, by decide, rfl, hide (HI.out.ext fun k hk => ?_)⟩
        by_cases e : k = i
        · subst e; rw [upd_same, marked_zero, RfL_ge (by omega)]
        · rw [upd_other _ _ e]
      case round =>
        clear HI
        obtain ⟨j, hj, rfl, HJ⟩ := hrel
        by_cases hjm : j < 512
        · have hjI : (j : Int) < 512 := by omega
          have hri := HJ.out.rows.row i hlt
          rw [upd_same] at hri
          have hxl := unhide HLX i hlt
          have hlen5 : (marked (mL i) j (X i)).length = 512 := by rw [marked_len (by omega), hxl]
          obtain ⟨g, c, hv, hc1, hc2, _, hgw⟩ := hri.head (by rw [hlen5]; omega)
          rw [hlen5] at hv hc1
          have hcell := HJ.out.cell hlt
          rw [hv] at hcell hri
          have hfr := hri.frozenAt j
          have hst := hri.set j (mL i)
          rw [marked_set (by omega)] at hst
          have hold : wr.cell? ⟨g, j, none⟩ = (marked (mL i) j (X i))[j]? := hri.cellAt (by rw [hlen5]; exact hjm)
          obtain ⟨old, hold2⟩ : ∃ old, (marked (mL i) j (X i))[j]? = some old := ⟨_, List.getElem?_eq_getElem (by rw [hlen5]; exact hjm)⟩
          rw [hold2] at hold
          have HV := hide hv
          have HST2 := hide hst
          have hwb : ((i : Int) + 1) % 256 = (i : Int) + 1 := by omega
          clear hst hold2 hri hv hlen5 hxl hc2
          go_wp2
          go_roundw
          case rel =>
            obtain ⟨hs1, hs2⟩ := HST2.out
            refine ⟨j + 1, by omega, by go_num, hide (HJ.out.next hlt (by rw [HV.out]; exact hs2) (by rw [HV.out, upd_same]; exact hs1) (fun q hq e => ?_))⟩
            rw [upd_other _ _ e, upd_other _ _ e]
          case measure => simp [intOf]; omega
        · have hjI : decide ((j : Int) < 512) = false := by simp; omega
          go_wp2
          go_roundw
          case rel =>
            refine ⟨i + 1, by omega, by go_num, hide (HJ.out.ext fun k hk => ?_)⟩
            by_cases e : k = i
            · subst e
              obtain rfl : j = 512 := by omega
              rw [upd_same, RfL_lt (by omega)]
              have := marked_all (mL k) (X k)
              rw [unhide HLX k hlt] at this
              exact this.symm
            · rw [upd_other _ _ e]
              by_cases e2 : k < i
              · rw [RfL_lt e2, RfL_lt (by omega)]
              · rw [RfL_ge e2, RfL_ge (by omega)]
          case measure => simp [intOf]; omega
    case neg =>
      have hltI : decide ((i : Int) < 4) = false := by simp; omega
      have HI4 : Hid (Lq w wr B S w.heap.size g13 gl us U (RfL X 4) cs1) := hide (by have := HI.out; rw [show i = 4 by omega] at this; exact this)
      clear HI
      have HR0 : Hid (Lr w wr B S w.heap.size g13 gl us U (RfL X 4) cs1 wr.heap.size (.slice none 0 0) [] 0) := hide ⟨HI4.out, rfl, Row.nil _ _ _, (fun k hk => by omega), HI4.out.size.2, HI4.out.a13.lt, Nat.le_refl _⟩
      clear HI4
      generalize hSL : wr.heap.size = SL at HR0
      clear hSL
      go_wp2_with fail
      go_loopw [18, 19] (fun lv iv W => ∃ (k : Nat) (ms : List Value) (vv : Value), k ≤ 4 ∧ iv = .int .i64 (k : Int) ∧ vv = lv ∧ Hid (Lr w W B S w.heap.size g13 gl us U (RfL X 4) cs1 SL vv ms k)) (fun _ iv _ => 4 - (intOf iv).toNat)
      case atStart => exact ⟨0, [], _, by decide, rfl, rfl, HR0⟩
      case round =>
        clear HR0
        obtain ⟨k, ms, lv, hk4, rfl, rfl, HK⟩ := hrel
        by_cases hkl : k < 4
        case pos =>
          have hkI : (k : Int) < 4 := by omega
          have hcell := HK.out.q.cell hkl
          have hr0 := HK.out.q.rows.row k hkl
          rw [RfL_lt hkl, ← longer_zero (mL k) (tL k)] at hr0
          obtain ⟨g, c, hv, hc1, hc2, _, _⟩ := hr0.head (by rw [longer_len]; decide)
          rw [longer_len] at hv hc1
          rw [hv] at hcell
          have HV := hide hv
          have HR5 := hide hr0
          have HSZ := hide HK.out.q.size
          have HLO := hide HK.out.q.lo
          have hwb : ((k : Int) + 11) % 256 = (k : Int) + 11 := by omega
          obtain ⟨xx, hxx⟩ : ∃ xx : Int, (k : Int) + 11 = xx := ⟨_, rfl⟩
          have HX : Hid (0 ≤ xx ∧ xx ≤ 255) := hide (by omega)
          have HTL : Hid (Value.int .u8 xx = tL k) := hide (by rw [← hxx]; rfl)
          rw [hxx] at hwb
          clear hr0 hv hc1 hc2
          go_wp2_with fail
          go_loopw [20, 21] (fun mv jv W => ∃ (j : Nat) (vv : Value), j ≤ 600 ∧ jv = .int .i64 (j : Int) ∧ vv = mv ∧ Hid (wr.grownBy W (U k).ownBlock ∧ Row W B 5 (U k) (longer (mL k) (tL k) 512 0) ∧ Row W B 5 vv (longer (mL k) (tL k) 512 j) ∧ LocL wr (U k) vv)) (fun _ jv _ => 600 - (intOf jv).toNat)
          case atStart =>
            have e : U k = .slice (some ⟨g, 0, none⟩) 512 c := HV.out
            exact ⟨0, _, by decide, rfl, rfl, hide ⟨⟨rfl, rfl, rfl, Nat.le_refl _, fun _ _ _ => rfl⟩, HR5.out, by rw [← e]; exact HR5.out, Or.inl (by rw [e])⟩⟩
          case round =>
            rename World => wj
            obtain ⟨j, mv, hj, rfl, rfl, HJ⟩ := hrel
            by_cases hjm : j < 600
            · have hjI : (j : Int) < 600 := by omega
              have hI6 : IsB (wj.alloc (.cells #[.int .u8 xx] 5)) (.slice (some ⟨wj.heap.size, 0, none⟩) 1 1) [xx] := isB_lit wj [xx] (by intro y hy; simp at hy; subst hy; exact HX.out) (by simp)
              have hrow6 := row_allocL HJ.out.2.2.1 (.cells #[.int .u8 xx] 5)
              have hbnd : (longer (mL k) (tL k) 512 j).length + 1 ≤ 140737488355328 := by rw [longer_len]; omega
              have hBw : B ≤ (wj.alloc (.cells #[.int .u8 xx] 5)).heap.size := by
                have := HJ.out.1.size
                have := HSZ.out
                have := HLO.out
                simp
                omega
              go_wp2_with (first
                | (at_builtin; refine wpList_appL rfl _ _ rfl rfl hrow6 rfl hI6 hbnd hBw ?_; intro v7 w7 hw7 hg7 hat7 hsh7)
                | fail)
              have hw8 : Row w7 B 5 v7 (longer (mL k) (tL k) 512 (j + 1)) := by
                have e : longer (mL k) (tL k) 512 j ++ List.map (Value.int IntKind.u8) [xx] = longer (mL k) (tL k) 512 (j + 1) := by
                  rw [List.map_cons, List.map_nil, HTL.out]; exact longer_rep _ _ _ _
                rw [← e]; exact hw7
              have hu8 : Row w7 B 5 (U k) (longer (mL k) (tL k) 512 0) := by
                have hsh8 : Shares (wj.alloc (.cells #[.int .u8 xx] 5)) w7 5 mv (longer (mL k) (tL k) 512 j) (List.replicate 1 (tL k)) := by
                  have e : List.map (Value.int IntKind.u8) [xx] = List.replicate 1 (tL k) := by rw [List.map_cons, List.map_nil, HTL.out]; rfl
                  rw [← e]; exact hsh7
                exact hsh8.longer (row_allocL HJ.out.2.1 _)
              have hgg := app_stepL (HJ.out.1.trans (World.grownBy_alloc wj _ _)) hg7 HJ.out.2.2.2 hat7
              refine ⟨⟨j + 1, _, by omega, by go_num, rfl, hide ⟨hgg.1, hu8, hw8, hgg.2⟩⟩, ?_⟩
              simp [intOf]; omega
            · have hjI : decide ((j : Int) < 600) = false := by simp; omega
              have hM : Row wj B 5 mv (longer (mL k) (tL k) 512 600) := by
                have := HJ.out.2.2.1
                rw [show j = 600 by omega] at this
                exact this
              have HF : Hid (∀ W' lv', (wj.alloc (.cells #[mv] 41)).grownBy W' lv.ownBlock → Row W' SL 41 lv' (ms ++ [mv]) → Lr w W' B S w.heap.size g13 gl us U (RfL X 4) cs1 SL lv' (ms ++ [mv]) (k + 1)) := hide (fun W' lv' h1 h2 => HK.out.add hkl HJ.out.1 HJ.out.2.1 hM HJ.out.2.2.2 h1 h2)
              have hrowl : Row wj SL 41 lv ms := HK.out.row.kept HJ.out.1 (HK.out.row.apart (HK.out.q.rows.row k hkl) (by decide))
              have HML := hide HK.out.len
              have hSLz : SL ≤ wj.heap.size := Nat.le_trans HK.out.sz.2.2 HJ.out.1.size
              obtain ⟨am, cm, hms⟩ := hM.shape
              rw [longer_len] at hms
              subst hms
              obtain ⟨al, cl, hls⟩ := hrowl.shape
              have HRL := hide hrowl
              clear hM hrowl
              go_wp2_with (first
                | (at_builtin; refine wpList_append_own _ rfl _ _ 49 rfl SL 41 i0 (.slice none 0 0) 1 24 Tryd.underlying49 hi hz0 hz1 hz2 rfl (by decide) _ _ _ rfl (World.ownsRow.alloc HRL.out _) ⟨wj.heap.size, 0, none⟩ 1 1 [.slice am (512 + 600) cm] rfl rfl (cell_one_new _ _ _) (by intro u hu; simp at hu; subst hu; rfl) (by have := HML.out; unfold maxLen; omega) (by have := HML.out; omega) (by simp; omega) ?_; intro v8 w8 hw8 hg8 hnil8)
                | fail)
              have hr8 : Row w8 SL 41 v8 (ms ++ [.slice am (512 + 600) cm]) := by
                unfold Row
                rw [List.length_append]
                exact hw8
              have HR8 := hide (unhide HF w8 v8 hg8 hr8)
              refine ⟨⟨k + 1, _, _, by omega, by go_num, rfl, HR8⟩, ?_⟩
              simp [intOf]; omega
        case neg =>
          have hkI : decide ((k : Int) < 4) = false := by simp; omega
          have hK4 : Lr w wr B S w.heap.size g13 gl us U (RfL X 4) cs1 SL lv ms 4 := by
            have := HK.out
            rw [show k = 4 by omega] at this
            exact this
          obtain ⟨gm, cm, rfl, hcm1, hcm2, hR1, hR2⟩ := hK4.read
          have HC1 := hide hR1
          have HC2 := hide hR2
          have hr13 := hK4.q.a13.rangeJ
          have hr2 := hK4.q.a2.rangeJ
          have HBE := hide hK4.q.be
          clear hR1 hR2 hK4 HK
          rename World => wf
          go_wp2_with fail
          go_loopw [22] (fun iv W => ∃ (k : Nat), k ≤ 4 ∧ iv = .int .i64 (k : Int) ∧ wf = W) (fun iv _ => 4 - (intOf iv).toNat)
          case atStart => exact ⟨0, by decide, rfl, rfl⟩
          case round =>
            obtain ⟨q, hq4, rfl, rfl⟩ := hrel
            by_cases hql : q < 4
            · have hqI : (q : Int) < 4 := by omega
              obtain ⟨g, c, e1, e2, e3, e4⟩ := unhide HC1 q hql
              obtain ⟨g', c', f1, f2, f3, f4⟩ := unhide HC2 q hql
              have HE4 := hide e4
              have HF4 := hide f4
              have hw1 : ((q : Int) + 1) % 256 = (q : Int) + 1 := by omega
              have hw11 : ((q : Int) + 11) % 256 = (q : Int) + 11 := by omega
              clear e4 f4
              go_wp2_with fail
              go_loopw [23] (fun jv W => ∃ (j : Nat), j ≤ 512 ∧ jv = .int .i64 (j : Int) ∧ wf = W) (fun jv _ => 512 - (intOf jv).toNat)
              case atStart => exact ⟨0, by decide, rfl, rfl⟩
              case round =>
                obtain ⟨j, hj, rfl, rfl⟩ := hrel
                by_cases hjm : j < 512
                · have hjI : (j : Int) < 512 := by omega
                  have hc := unhide HE4 j hjm
                  go_wp2
                  go_roundw
                  case rel => exact ⟨j + 1, by omega, by go_num, trivial⟩
                  case measure => simp [intOf]; omega
                · have hjI : decide ((j : Int) < 512) = false := by simp; omega
                  go_wp2_with fail
                  go_loopw [24] (fun jv W => ∃ (j : Nat), j ≤ 600 ∧ jv = .int .i64 (j : Int) ∧ wf = W) (fun jv _ => 600 - (intOf jv).toNat)
                  case atStart => exact ⟨0, by decide, rfl, rfl⟩
                  case round =>
                    obtain ⟨z, hz, rfl, rfl⟩ := hrel
                    by_cases hzm : z < 600
                    · have hzI : (z : Int) < 600 := by omega
                      have hc := unhide HF4 z hzm
                      go_wp2
                      go_roundw
                      case rel => exact ⟨z + 1, by omega, by go_num, trivial⟩
                      case measure => simp [intOf]; omega
                    · have hzI : decide ((z : Int) < 600) = false := by simp; omega
                      go_wp2
                      go_roundw
                      case rel => exact ⟨q + 1, by omega, by go_num, trivial⟩
                      case measure => simp [intOf]; omega
            · have hqI : decide ((q : Int) < 4) = false := by simp; omega
              go_wp2_with (first
                | (refine wpList_loadOnS (by rfl) 32 (.tmp 13) rfl _ 0 rfl cs1 _ hr13 Tryd.underlying32 rfl hinf ?_)
                | (refine wpList_loadOnS (by rfl) 32 (.tmp 2) rfl _ 0 rfl cs1 _ hr2 Tryd.underlying32 rfl hinf ?_)
                | fail)
              go_ret
              exact ⟨rfl, HBE.out⟩
end Go.Proofs.YtpeopejnkbmcdaaDoor
