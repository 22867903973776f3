/- What RootElsewhere answers. -/
import Derived.Test.YtbgknbjpbobebabDoorRtL
namespace Go.Proofs.YtbgknbjpbobebabDoor
open Go.RowKit Go.Maps

/-- One slot in one sector of a new disk. -/
theorem else_counts {n i : Nat} {s : SL} (hs : s.Ok) (hm : s.May) (hi : i < 2) : cntS n ((zeroD n).write i (slL s)).now = (if s.sc = (n : Int) ∧ s.t % 2 = (i : Int) then some s else none) := by
  have hd := decS_sl hs hm
  have hz : ∀ j, sndO n zsec j = none := fun j => sndO_none zsec_noneS
  have q : ∀ j, j = i → sndO n (((zeroD n).write i (slL s)).now j) j = (if s.sc = (n : Int) ∧ s.t % 2 = (i : Int) then some s else none) := fun j hj => by
    subst hj
    rw [write_nowS]
    by_cases h : s.sc = (n : Int) ∧ s.t % 2 = (j : Int)
    · rw [if_pos h, sndO_yes hd h.1 h.2]
    · rw [if_neg h, sndO_not hd h]
  have o : ∀ j, j ≠ i → sndO n (((zeroD n).write i (slL s)).now j) j = none := fun j hj => by
    rw [write_nowO _ _ hj, zeroD_now, hz]
  show newer (newer none (sndO n (((zeroD n).write i (slL s)).now 0) 0)) (sndO n (((zeroD n).write i (slL s)).now 1) 1) = _
  match i, hi with
  | 0, _ =>
    rw [q 0 rfl, o 1 (by decide)]
    split <;> rfl
  | 1, _ =>
    rw [o 0 (by decide), q 1 rfl]
    split <;> rfl
theorem sand4095 (x : Int) : ∃ g : Nat, g ≤ 4095 ∧ bits .and .i64 x 4095 = (g : Int) := by
  have hle : (BitVec.ofInt 64 x &&& BitVec.ofInt 64 4095).toNat ≤ 4095 := by
    rw [BitVec.toNat_and]
    exact Nat.le_trans Nat.and_le_right (by decide)
  refine ⟨(BitVec.ofInt 64 x &&& BitVec.ofInt 64 4095).toNat, hle, ?_⟩
  show IntKind.i64.wrap (((BitVec.ofInt 64 x &&& BitVec.ofInt 64 4095).toNat : Nat) : Int) = _
  generalize (BitVec.ofInt 64 x &&& BitVec.ofInt 64 4095).toNat = q at *
  rw [IntKind.wrap_i64]
  omega
theorem sand1 (x : Int) : ∃ g : Nat, g < 2 ∧ bits .and .i64 x 1 = (g : Int) := by
  have hle : (BitVec.ofInt 64 x &&& BitVec.ofInt 64 1).toNat ≤ 1 := by
    rw [BitVec.toNat_and]
    exact Nat.le_trans Nat.and_le_right (by decide)
  refine ⟨(BitVec.ofInt 64 x &&& BitVec.ofInt 64 1).toNat, by omega, ?_⟩
  show IntKind.i64.wrap (((BitVec.ofInt 64 x &&& BitVec.ofInt 64 1).toNat : Nat) : Int) = _
  generalize (BitVec.ofInt 64 x &&& BitVec.ofInt 64 1).toNat = q at *
  rw [IntKind.wrap_i64]
  omega
theorem wpList_bldOnS {ops : Array Oper} {rest : List Oper} {o : Oper} {a : Act} {Q : Exit → Act → World → Prop} {w : World} (hw : Region.wanted o (yielded ops a.tmps) = true) (t : TypeId) (ho : o.op = .build t #[]) {u : Value} (hrun : ∀ W, (Instr.build t #[]).run Tryd.prog W = .ok u W)
    (hk : wpList Tryd.prog ops Q rest (a.put o.dst u) w) : wpList Tryd.prog ops Q (o :: rest) a w := by
  refine wpList_on hw fun K hK => ?_
  unfold Oper.wp execOp
  simp only [ho, List.map_toArray, List.map_nil, Sem.run_bind, hrun w, Result.andThen_ok, Sem.run_pure]
  exact hK _ _ hk
set_option maxRecDepth 100000 in
set_option maxHeartbeats 4000000 in
theorem rootElsewhere_walk {w : World} {s : SL} (x1 x2 : Int) (hs : s.Ok) (ht : Tab w) : Calls Tryd.prog 4 #[.agg (slV s).toArray, .int .i64 x1, .int .i64 x2] w fun e w' => e = .returned (.bool true) ∧ Below w.heap.size w w' := by
  have hinf := infoSof hs
  have HMY : Hid (∀ W, Calls Tryd.prog 12 #[.agg (slV s).toArray] W fun e w' => e = .returned (.bool s.may) ∧ Below W.heap.size W w') := hide (fun W => lmay_calls hs)
  by_cases hm : s.May
  case neg =>
    have HST : Hid (∀ W, Below w.heap.size w W → Calls Tryd.prog 13 #[] W fun e w' => e = .returned (.bool true) ∧ Below W.heap.size W w') := hide (fun W hW => started_calls18 (ht.below hW))
    rw [SL.may_no hm] at HMY
    have HEN : Hid (∀ W, Calls Tryd.prog 11 #[.agg (slV s).toArray] W fun e w' => e = .returned (.tuple #[.slice none 0 0, .int .i64 180]) ∧ Below W.heap.size W w') := hide (fun W => senc_no hs hm)
    generalize slV s = cs1 at *
    clear hs hm ht
    go_enter Tryd.func4, Tryd.ntmps4
    go_wp2_with (first
      | (refine wpList_boxJ rfl 32 (.tmp 0) rfl rfl ?_; intro w1 hA1 hb1 hs1
         have hrg := hA1.rangeJ
         have HA1 := hide hA1
         have HB1 := hide hb1
         clear hA1 hb1 hs1)
      | (refine wpList_loadJ rfl 32 (.tmp 3) rfl _ 0 rfl cs1 _ hrg Tryd.underlying32 rfl hinf ?_)
      | fail)
    refine (unhide HEN _).mono ?_
    rintro e w2 ⟨rfl, hb2⟩
    have hrg2 := (HA1.out.below hb2).rangeJ
    have HB2 := hide (below_then HB1.out hb2)
    clear hrg HA1 hb2 HEN
    go_wp2_with (first
      | (refine wpList_loadJ rfl 32 (.tmp 3) rfl _ 0 rfl cs1 _ hrg2 Tryd.underlying32 rfl hinf ?_)
      | fail)
    refine (unhide HMY _).mono ?_
    rintro e w3 ⟨rfl, hb3⟩
    have HB3 := hide (below_then HB2.out hb3)
    clear hb3 hrg2 HMY
    go_wp2_with fail
    refine (unhide HST _ HB3.out).mono ?_
    rintro e w4 ⟨rfl, hb4⟩
    have HB4 := hide (below_then HB3.out hb4)
    clear hb4 HST
    go_wp2
    go_ret
    exact ⟨rfl, HB4.out⟩
  case pos =>
    rw [(SL.may_iff s).2 hm] at HMY
    have HEN : Hid (∀ W, Below w.heap.size w W → Calls Tryd.prog 11 #[.agg (slV s).toArray] W fun e w' => ∃ u, e = .returned (.tuple #[u, .int .i64 0]) ∧ Own8 w' W.heap.size u (slL s) ∧ Below W.heap.size W w') := hide (fun W hW => senc_good hs hm (ht.below hW))
    obtain ⟨g, hg, hand⟩ := sand4095 x1
    obtain ⟨i, hi, hand2⟩ := sand1 x2
    obtain ⟨n, hn⟩ : ∃ n : Nat, n = 2 + g := ⟨_, rfl⟩
    have hnI : (2 : Int) + (g : Int) = (n : Int) := by omega
    have hnw : IntKind.i64.wrap (n : Int) = (n : Int) := IntWalk.i64_in _ (by omega)
    have HNW : Hid (∀ W, Below w.heap.size w W → Calls Tryd.prog 6 #[.int .i64 (n : Int)] W fun e w' => ∃ p, e = .returned (.tuple #[.pointer (some ⟨p, 0, none⟩), .int .i64 0]) ∧ Sn w w' p (zeroD n) ∧ Below W.heap.size W w') := hide (fun W hW => sn_new hW (by omega) (by omega))
    have HWR : Hid (∀ W B p u, Sn w W p (zeroD n) → Own8 W B u (slL s) → Calls Tryd.prog 14 #[.pointer (some ⟨p, 0, none⟩), .int .i64 (i : Int), u] W fun e w' => e = .returned (.int .i64 0) ∧ Sn w w' p ((zeroD n).write i (slL s)) ∧ Cj TDk W w') := hide (fun W B p u hS ho => sn_write hS (by simp [zeroD]; omega) (Int.le_refl 0) (by show (0 : Int) ≤ _; decide) (by simp [zeroD]) ⟨slL_len hs, slL_by hs⟩ ho)
    have HRD : Hid (∀ W p, Sn w W p ((zeroD n).write i (slL s)) → Calls Tryd.prog 10 #[.pointer (some ⟨p, 0, none⟩)] W fun e w' => e = .returned (.tuple #[.agg (slV ((cntS n ((zeroD n).write i (slL s)).now).getD .nul)).toArray, .int .i64 (oE (cntS n ((zeroD n).write i (slL s)).now))]) ∧ Sn w w' p (((zeroD n).write i (slL s)).sds 2) ∧ Cj TDk W w') := hide (fun W p h => by
      have := sread_calls h ht (Int.le_refl 0) (by show (0 : Int) ≤ _; decide)
      rw [show ((zeroD n).write i (slL s)).la.length = n by simp [AD.write, zeroD]] at this
      exact this)
    rw [else_counts hs hm hi] at HRD
    have HT0 := hide hm.t.1
    have hbin := fun op xx y xs ys W => slot_guard op xx y xs ys W
    have HCS : Hid (∀ W, Arr W w.heap.size 32 (slV s) → W.cell? ⟨w.heap.size, 0, none⟩ = some (.int .i64 s.sc) ∧ W.cell? ⟨w.heap.size, 2, none⟩ = some (.int .i64 s.t) ∧ W.rangeAt w.heap.size 0 (slV s)) := hide (fun W hA => ⟨(hA.cell 0).trans (slV_at s).1, (hA.cell 2).trans (slV_at s).2.2.1, hA.rangeJ⟩)
    have hmodt : s.t.tmod 2 = s.t % 2 := Int.tmod_eq_emod_of_nonneg hm.t.1
    by_cases hc : s.sc = (n : Int) ∧ s.t % 2 = (i : Int)
    · rw [if_pos hc] at HRD
      rw [show ((some s).getD .nul) = s from rfl, show oE (some s) = 0 from rfl] at HRD
      have heq : ∀ W, (binOp .eql 32 (.agg (slV s).toArray) (.agg (slV s).toArray)).run Tryd.prog W = .ok (.bool true) W := fun W => by rw [slot_eql hs hs, slEq_refl]
      have hlen : z105.length = (slV s).length := by rw [slV_len hs]; rfl
      have hone := slV_one s
      have hsc : (s.sc == (n : Int)) = true := by simpa using hc.1
      have htm : (s.t % 2 == (i : Int)) = true := by simpa using hc.2
      obtain ⟨tt, htt⟩ : ∃ tt, tt = s.t % 2 := ⟨_, rfl⟩
      rw [← htt] at hmodt htm
      generalize slL s = bb at *
      generalize hcs : slV s = cs1 at *
      generalize s.sc = xs0 at *
      generalize s.t = xt at *
      obtain ⟨D1, hD1⟩ : ∃ D1, D1 = (zeroD n).write i bb := ⟨_, rfl⟩
      rw [← hD1] at HWR HRD
      generalize zeroD n = D0 at *
      have HNI := hide hn
      clear hs hm ht hcs htt hD1 hn hg hc 
      go_enter Tryd.func4, Tryd.ntmps4
      go_wp2_with (first
        | (refine wpList_boxJ rfl 32 (.tmp 0) rfl rfl ?_; intro w1 hA1 hb1 hs1
           have hrg := hA1.rangeJ
           have HA1 := hide hA1
           have HB1 := hide hb1
           clear hA1 hb1 hs1)
        | (refine wpList_loadJ rfl 32 (.tmp 3) rfl _ 0 rfl cs1 _ hrg Tryd.underlying32 rfl hinf ?_)
        | fail)
      refine (unhide HEN _ HB1.out).mono ?_
      rintro e w2 ⟨u, rfl, ho2, hb2⟩
      have hA2 := HA1.out.below hb2
      have hrg2 := hA2.rangeJ
      have HA2 := hide hA2
      have HB2 := hide (below_then HB1.out hb2)
      obtain ⟨ua, un, uc, rfl⟩ := ho2.shape
      have HO2 := hide ho2
      clear hrg HA1 hA2 ho2 hb2 HEN
      go_wp2_with (first
        | (refine wpList_loadJ rfl 32 (.tmp 3) rfl _ 0 rfl cs1 _ hrg2 Tryd.underlying32 rfl hinf ?_)
        | fail)
      refine (unhide HMY _).mono ?_
      rintro e w3 ⟨rfl, hb3⟩
      have HA3 := hide (HA2.out.below hb3)
      have HO3 := hide (HO2.out.below hb3)
      have HB3 := hide (below_then HB2.out hb3)
      clear hb3 HA2 HO2 hrg2 HMY
      go_wp2_with fail
      refine (unhide HNW _ HB3.out).mono ?_
      rintro e w4 ⟨p, rfl, hS4, hb4⟩
      have HA4 := hide (HA3.out.below hb4)
      have HO4 := hide (HO3.out.below hb4)
      have HS4 := hide hS4
      clear HNW hS4 hb4 HA3 HO3
      go_wp2_with fail
      refine (unhide HWR _ _ _ _ HS4.out HO4.out).mono ?_
      rintro e w5 ⟨rfl, hS5, hC5⟩
      have HA5 := hide (HA4.out.cj hC5 tdk_slot)
      have HS5 := hide hS5
      clear HWR hS5 hC5 HA4 HO4 HS4
      go_wp2_with fail
      refine (unhide HRD _ _ HS5.out).mono ?_
      rintro e w6 ⟨rfl, hS6, hC6⟩
      have hA6 := HA5.out.cj hC6 tdk_slot
      have HBW := hide hS6.be
      have HX : Hid (∀ w8, Arr w8 w6.heap.size 32 cs1 → (w6.alloc (.cells z105.toArray 32)).grownBy w8 (some w6.heap.size) → w8.rangeAt w6.heap.size 0 cs1 ∧ (w8.cell? ⟨w.heap.size, 0, none⟩ = some (.int .i64 xs0) ∧ w8.cell? ⟨w.heap.size, 2, none⟩ = some (.int .i64 xt) ∧ w8.rangeAt w.heap.size 0 cs1) ∧ Below w.heap.size w w8) := hide (fun w8 hA8 hg8 => by
        have hba := jalloc_below w6 (.cells z105.toArray 32)
        have hb8 := jbelow_grown hba hg8 hba.size (Nat.le_refl _)
        exact ⟨hA8.rangeJ, unhide HCS _ (hA6.below hb8), below_then HBW.out hb8⟩)
      clear HRD hS6 hC6 HA5 hA6 HCS HS5
      go_wp2_with (first
        | (refine wpList_allocJ rfl 32 rfl infoSlo ?_)
        | (refine wpList_storeJ rfl (.tmp 11) (.tmp 52) 32 rfl rfl rfl (Arr.new w6 z105 32) hinf hlen hone ?_; intro w8 hA8 hg8
           obtain ⟨hr1, ⟨c0, c2, hr2⟩, hb8⟩ := unhide HX w8 hA8 hg8
           have HB8 := hide hb8
           clear hA8 hg8 hb8 HX)
        | (refine wpList_loadOnS (by rfl) 32 (.tmp 11) rfl _ 0 rfl cs1 _ hr1 Tryd.underlying32 rfl hinf ?_)
        | (refine wpList_loadOnS (by rfl) 32 (.tmp 3) rfl _ 0 rfl cs1 _ hr2 Tryd.underlying32 rfl hinf ?_)
        | fail)
      go_ret
      exact ⟨rfl, HB8.out⟩
    · rw [if_neg hc] at HRD
      rw [show ((none : Option SL).getD .nul) = .nul from rfl, show oE (none : Option SL) = 180 from rfl] at HRD
      have heq : ∀ W, (binOp .eql 32 (.agg (slV .nul).toArray) (.agg (slV .nul).toArray)).run Tryd.prog W = .ok (.bool true) W := fun W => by rw [slot_eql SL.nul_ok SL.nul_ok, slEq_refl]
      have hinf0 := infoSof SL.nul_ok
      have hlen : z105.length = (slV .nul).length := by rw [slV_len SL.nul_ok]; rfl
      have hone := slV_one SL.nul
      by_cases hc1 : s.sc = (n : Int)
      · have hsc : (s.sc == (n : Int)) = true := by simpa using hc1
        have htm : (s.t % 2 == (i : Int)) = false := by simpa using (fun h => hc ⟨hc1, h⟩)
        obtain ⟨tt, htt⟩ : ∃ tt, tt = s.t % 2 := ⟨_, rfl⟩
        rw [← htt] at hmodt htm
        generalize slL s = bb at *
        generalize hcs : slV s = cs1 at *
        have HBL := hide bldS0
        generalize slV SL.nul = cs0 at *
        generalize s.sc = xs0 at *
        generalize s.t = xt at *
        obtain ⟨D1, hD1⟩ : ∃ D1, D1 = (zeroD n).write i bb := ⟨_, rfl⟩
        rw [← hD1] at HWR HRD
        generalize zeroD n = D0 at *
        have HNI := hide hn
        clear hs hm ht hcs htt hD1 hn hg hc hc1
        go_enter Tryd.func4, Tryd.ntmps4
        go_wp2_with (first
          | (refine wpList_boxJ rfl 32 (.tmp 0) rfl rfl ?_; intro w1 hA1 hb1 hs1
             have hrg := hA1.rangeJ
             have HA1 := hide hA1
             have HB1 := hide hb1
             clear hA1 hb1 hs1)
          | (refine wpList_loadJ rfl 32 (.tmp 3) rfl _ 0 rfl cs1 _ hrg Tryd.underlying32 rfl hinf ?_)
          | fail)
        refine (unhide HEN _ HB1.out).mono ?_
        rintro e w2 ⟨u, rfl, ho2, hb2⟩
        have hA2 := HA1.out.below hb2
        have hrg2 := hA2.rangeJ
        have HA2 := hide hA2
        have HB2 := hide (below_then HB1.out hb2)
        obtain ⟨ua, un, uc, rfl⟩ := ho2.shape
        have HO2 := hide ho2
        clear hrg HA1 hA2 ho2 hb2 HEN
        go_wp2_with (first
          | (refine wpList_loadJ rfl 32 (.tmp 3) rfl _ 0 rfl cs1 _ hrg2 Tryd.underlying32 rfl hinf ?_)
          | fail)
        refine (unhide HMY _).mono ?_
        rintro e w3 ⟨rfl, hb3⟩
        have HA3 := hide (HA2.out.below hb3)
        have HO3 := hide (HO2.out.below hb3)
        have HB3 := hide (below_then HB2.out hb3)
        clear hb3 HA2 HO2 hrg2 HMY
        go_wp2_with fail
        refine (unhide HNW _ HB3.out).mono ?_
        rintro e w4 ⟨p, rfl, hS4, hb4⟩
        have HA4 := hide (HA3.out.below hb4)
        have HO4 := hide (HO3.out.below hb4)
        have HS4 := hide hS4
        clear HNW hS4 hb4 HA3 HO3
        go_wp2_with fail
        refine (unhide HWR _ _ _ _ HS4.out HO4.out).mono ?_
        rintro e w5 ⟨rfl, hS5, hC5⟩
        have HA5 := hide (HA4.out.cj hC5 tdk_slot)
        have HS5 := hide hS5
        clear HWR hS5 hC5 HA4 HO4 HS4
        go_wp2_with fail
        refine (unhide HRD _ _ HS5.out).mono ?_
        rintro e w6 ⟨rfl, hS6, hC6⟩
        have hA6 := HA5.out.cj hC6 tdk_slot
        have HBW := hide hS6.be
        have HX : Hid (∀ w8, Arr w8 w6.heap.size 32 cs0 → (w6.alloc (.cells z105.toArray 32)).grownBy w8 (some w6.heap.size) → w8.rangeAt w6.heap.size 0 cs0 ∧ (w8.cell? ⟨w.heap.size, 0, none⟩ = some (.int .i64 xs0) ∧ w8.cell? ⟨w.heap.size, 2, none⟩ = some (.int .i64 xt) ∧ w8.rangeAt w.heap.size 0 cs1) ∧ Below w.heap.size w w8) := hide (fun w8 hA8 hg8 => by
          have hba := jalloc_below w6 (.cells z105.toArray 32)
          have hb8 := jbelow_grown hba hg8 hba.size (Nat.le_refl _)
          exact ⟨hA8.rangeJ, unhide HCS _ (hA6.below hb8), below_then HBW.out hb8⟩)
        clear HRD hS6 hC6 HA5 hA6 HCS HS5
        go_wp2_with (first
          | (refine wpList_allocJ rfl 32 rfl infoSlo ?_)
          | (refine wpList_storeJ rfl (.tmp 11) (.tmp 52) 32 rfl rfl rfl (Arr.new w6 z105 32) hinf0 hlen hone ?_; intro w8 hA8 hg8
             obtain ⟨hr1, ⟨c0, c2, hr2⟩, hb8⟩ := unhide HX w8 hA8 hg8
             have HB8 := hide hb8
             clear hA8 hg8 hb8 HX)
          | (refine wpList_loadOnS (by rfl) 32 (.tmp 11) rfl _ 0 rfl cs0 _ hr1 Tryd.underlying32 rfl hinf0 ?_)
          | (refine wpList_bldOnS (by rfl) 32 rfl HBL.out ?_)
          | fail)
        go_ret
        exact ⟨rfl, HB8.out⟩
      · have hsc : (s.sc == (n : Int)) = false := by simpa using hc1
        obtain ⟨tt, htt⟩ : ∃ tt, tt = s.t % 2 := ⟨_, rfl⟩
        rw [← htt] at hmodt
        generalize slL s = bb at *
        generalize hcs : slV s = cs1 at *
        have HBL := hide bldS0
        generalize slV SL.nul = cs0 at *
        generalize s.sc = xs0 at *
        generalize s.t = xt at *
        obtain ⟨D1, hD1⟩ : ∃ D1, D1 = (zeroD n).write i bb := ⟨_, rfl⟩
        rw [← hD1] at HWR HRD
        generalize zeroD n = D0 at *
        have HNI := hide hn
        clear hs hm ht hcs htt hD1 hn hg hc hc1
        go_enter Tryd.func4, Tryd.ntmps4
        go_wp2_with (first
          | (refine wpList_boxJ rfl 32 (.tmp 0) rfl rfl ?_; intro w1 hA1 hb1 hs1
             have hrg := hA1.rangeJ
             have HA1 := hide hA1
             have HB1 := hide hb1
             clear hA1 hb1 hs1)
          | (refine wpList_loadJ rfl 32 (.tmp 3) rfl _ 0 rfl cs1 _ hrg Tryd.underlying32 rfl hinf ?_)
          | fail)
        refine (unhide HEN _ HB1.out).mono ?_
        rintro e w2 ⟨u, rfl, ho2, hb2⟩
        have hA2 := HA1.out.below hb2
        have hrg2 := hA2.rangeJ
        have HA2 := hide hA2
        have HB2 := hide (below_then HB1.out hb2)
        obtain ⟨ua, un, uc, rfl⟩ := ho2.shape
        have HO2 := hide ho2
        clear hrg HA1 hA2 ho2 hb2 HEN
        go_wp2_with (first
          | (refine wpList_loadJ rfl 32 (.tmp 3) rfl _ 0 rfl cs1 _ hrg2 Tryd.underlying32 rfl hinf ?_)
          | fail)
        refine (unhide HMY _).mono ?_
        rintro e w3 ⟨rfl, hb3⟩
        have HA3 := hide (HA2.out.below hb3)
        have HO3 := hide (HO2.out.below hb3)
        have HB3 := hide (below_then HB2.out hb3)
        clear hb3 HA2 HO2 hrg2 HMY
        go_wp2_with fail
        refine (unhide HNW _ HB3.out).mono ?_
        rintro e w4 ⟨p, rfl, hS4, hb4⟩
        have HA4 := hide (HA3.out.below hb4)
        have HO4 := hide (HO3.out.below hb4)
        have HS4 := hide hS4
        clear HNW hS4 hb4 HA3 HO3
        go_wp2_with fail
        refine (unhide HWR _ _ _ _ HS4.out HO4.out).mono ?_
        rintro e w5 ⟨rfl, hS5, hC5⟩
        have HA5 := hide (HA4.out.cj hC5 tdk_slot)
        have HS5 := hide hS5
        clear HWR hS5 hC5 HA4 HO4 HS4
        go_wp2_with fail
        refine (unhide HRD _ _ HS5.out).mono ?_
        rintro e w6 ⟨rfl, hS6, hC6⟩
        have hA6 := HA5.out.cj hC6 tdk_slot
        have HBW := hide hS6.be
        have HX : Hid (∀ w8, Arr w8 w6.heap.size 32 cs0 → (w6.alloc (.cells z105.toArray 32)).grownBy w8 (some w6.heap.size) → w8.rangeAt w6.heap.size 0 cs0 ∧ (w8.cell? ⟨w.heap.size, 0, none⟩ = some (.int .i64 xs0) ∧ w8.cell? ⟨w.heap.size, 2, none⟩ = some (.int .i64 xt) ∧ w8.rangeAt w.heap.size 0 cs1) ∧ Below w.heap.size w w8) := hide (fun w8 hA8 hg8 => by
          have hba := jalloc_below w6 (.cells z105.toArray 32)
          have hb8 := jbelow_grown hba hg8 hba.size (Nat.le_refl _)
          exact ⟨hA8.rangeJ, unhide HCS _ (hA6.below hb8), below_then HBW.out hb8⟩)
        clear HRD hS6 hC6 HA5 hA6 HCS HS5
        go_wp2_with (first
          | (refine wpList_allocJ rfl 32 rfl infoSlo ?_)
          | (refine wpList_storeJ rfl (.tmp 11) (.tmp 52) 32 rfl rfl rfl (Arr.new w6 z105 32) hinf0 hlen hone ?_; intro w8 hA8 hg8
             obtain ⟨hr1, ⟨c0, c2, hr2⟩, hb8⟩ := unhide HX w8 hA8 hg8
             have HB8 := hide hb8
             clear hA8 hg8 hb8 HX)
          | (refine wpList_loadOnS (by rfl) 32 (.tmp 11) rfl _ 0 rfl cs0 _ hr1 Tryd.underlying32 rfl hinf0 ?_)
          | (refine wpList_bldOnS (by rfl) 32 rfl HBL.out ?_)
          | fail)
        go_ret
        exact ⟨rfl, HB8.out⟩
end Go.Proofs.YtbgknbjpbobebabDoor
