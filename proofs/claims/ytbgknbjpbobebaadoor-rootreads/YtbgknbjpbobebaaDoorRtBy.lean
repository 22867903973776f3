/- What the law's own bytes answers. -/
import Derived.Test.YtbgknbjpbobebaaDoorRtDc
import Derived.Test.YtbgknbjpbobebaaDoorRtCp
namespace Go.Proofs.YtbgknbjpbobebaaDoor
open Go.RowKit Go.Maps

/-- A Put's cells. -/
def putV (n : Int) (s : SL) (bit : Int) (rv : Value) : List Value := .int .i64 n :: (slV s ++ [.int .i64 bit, rv])
def bts0 (s : SL) (raw : List Int) : List Int := if s.may = true then slL s else raw.take 512 ++ List.replicate (512 - (raw.take 512).length) 0
/-- What is written. -/
def bts (s : SL) (bit : Int) (raw : List Int) : List Int := if 0 ≤ bit ∧ bit < 4096 then turnB (bts0 s raw) bit.toNat else bts0 s raw
theorem bts0_sec {s : SL} {raw : List Int} (hs : s.Ok) (hr : By8 raw) : IsSec (bts0 s raw) := by
  unfold bts0
  split
  · exact ⟨slL_len hs, slL_by hs⟩
  · exact ⟨by simp; omega, (hr.take 512).app (By8.zero _)⟩
theorem bts_sec {s : SL} {raw : List Int} (hs : s.Ok) (hr : By8 raw) (bit : Int) : IsSec (bts s bit raw) := by
  unfold bts
  split
  · exact turnB_is (bts0_sec hs hr) (by omega)
  · exact bts0_sec hs hr
theorem putV_r {W : World} {g : Nat} {n : Int} {s : SL} {bit : Int} {rv : Value} (hs : s.Ok) (hA : Arr W g 48 (putV n s bit rv)) : W.rangeAt g 1 (slV s) ∧ W.cell? ⟨g, 0, none⟩ = some (.int .i64 n) ∧ W.cell? ⟨g, 106, none⟩ = some (.int .i64 bit) ∧ W.cell? ⟨g, 107, none⟩ = some rv := by
  refine ⟨fun j v hv => ?_, hA.cell 0, ?_, ?_⟩
  · rw [hA.cell]
    unfold putV
    rw [Nat.add_comm, List.getElem?_cons_succ, List.getElem?_append_left (List.getElem?_eq_some_iff.1 hv).1]
    exact hv
  · rw [hA.cell]
    unfold putV
    rw [List.getElem?_cons_succ, List.getElem?_append_right (by rw [slV_len hs]; decide), slV_len hs]
    rfl
  · rw [hA.cell]
    unfold putV
    rw [List.getElem?_cons_succ, List.getElem?_append_right (by rw [slV_len hs]; decide), slV_len hs]
    rfl
theorem flipB {b : List Int} (hb : IsSec b) {k : Nat} (hk : k < 4096) : ∃ y : Int, bits .xor .u8 (b.getD (k / 8) 0) ((2 : Int) ^ (k % 8) % 256) = y ∧ 0 ≤ y ∧ y ≤ 255 ∧ b.set (k / 8) y = turnB b k := by
  have hx8 : 0 ≤ b.getD (k / 8) 0 ∧ b.getD (k / 8) 0 ≤ 255 := by
    rw [List.getD_eq_getElem?_getD, List.getElem?_eq_getElem (by rw [hb.1]; omega)]
    exact hb.2 _ (List.getElem_mem _)
  refine ⟨(((b.getD (k / 8) 0).toNat ^^^ 2 ^ (k % 8) : Nat) : Int), ?_, ?_, ?_, rfl⟩
  · have hp : (2 : Nat) ^ (k % 8) < 2 ^ 8 := Nat.pow_lt_pow_right (by omega) (by omega)
    have e : ((2 : Int) ^ (k % 8) % 256) = ((2 ^ (k % 8) : Nat) : Int) := by
      have : (2 : Int) ^ (k % 8) = ((2 ^ (k % 8) : Nat) : Int) := by simp
      rw [this]
      generalize (2 : Nat) ^ (k % 8) = pw at hp
      omega
    rw [e, u8_xor _ _ hx8.1 (by omega) (by omega) (by omega), Int.toNat_natCast]
  · omega
  · have h1 : ((b.getD (k / 8) 0).toNat) < 2 ^ 8 := by omega
    have h2 : 2 ^ (k % 8) < 2 ^ 8 := Nat.pow_lt_pow_right (by omega) (by omega)
    have h3 := Nat.xor_lt_two_pow h1 h2
    generalize ((b.getD (k / 8) 0).toNat ^^^ 2 ^ (k % 8)) = zz at h3
    omega
set_option maxRecDepth 100000 in
set_option maxHeartbeats 4000000 in
theorem lbytes_calls {w : World} {n : Int} {s : SL} {bit : Int} {rv : Value} {raw : List Int} (hs : s.Ok) (hr : IsB w rv raw) : Calls Tryd.prog 15 #[.agg (putV n s bit rv).toArray] w fun e w' => ∃ u, e = .returned u ∧ Own8 w' w.heap.size u (bts s bit raw) ∧ Below w.heap.size w w' := by
  obtain ⟨i0, hi, hz0, hz1, hz2⟩ := info_parts info8
  have hinf := infoSof hs
  have HRG : Hid (∀ W, Arr W w.heap.size 48 (putV n s bit rv) → W.rangeAt w.heap.size 1 (slV s) ∧ W.cell? ⟨w.heap.size, 0, none⟩ = some (.int .i64 n) ∧ W.cell? ⟨w.heap.size, 106, none⟩ = some (.int .i64 bit) ∧ W.cell? ⟨w.heap.size, 107, none⟩ = some rv) := hide (fun W hA => putV_r hs hA)
  have HRAW : Hid (∀ W, Below w.heap.size w W → IsB W rv raw) := hide (fun W hW => hr.below hW)
  have HSEC := hide (bts0_sec hs (show By8 raw from hr.mem))
  obtain ⟨ra, rn, rc, rfl⟩ := hr.shape
  have HIN : Hid (∀ k : Nat, bit = (k : Int) → k < 4096 → bts s bit raw = turnB (bts0 s raw) k) := hide (fun k h1 h2 => by unfold bts; rw [if_pos ⟨by omega, by omega⟩, h1, Int.toNat_natCast])
  have HOUT : Hid (¬ (0 ≤ bit ∧ bit < 4096) → bts s bit raw = bts0 s raw) := hide (fun h => by unfold bts; rw [if_neg h])
  generalize hpv : putV n s bit (.slice ra rn rc) = pv at *
  by_cases hm : s.May
  · have HEN : Hid (∀ W : World, Calls Tryd.prog 10 #[.agg (slV s).toArray] W fun e w' => ∃ u, e = .returned (.tuple #[u, .int .i64 0]) ∧ Own8 w' W.heap.size u (bts0 s raw) ∧ Below W.heap.size W w') := hide (fun W => by have := renc_good (w := W) hs hm; rw [show bts0 s raw = slL s by unfold bts0; rw [if_pos ((SL.may_iff s).2 hm)]]; exact this)
    generalize bts0 s raw = b0 at *
    generalize bts s bit raw = bR at *
    generalize slV s = cs1 at *
    clear hs hr hm hpv HRAW hi hz0 hz1 hz2
    go_enter Tryd.func15, Tryd.ntmps15
    go_wp2_with (first
      | (refine wpList_boxJ rfl 48 (.tmp 0) rfl rfl ?_; intro w1 hA1 hb1 hs1
         obtain ⟨hrg, _, _, _⟩ := unhide HRG w1 hA1
         have HA1 := hide hA1
         have HB1 := hide hb1
         clear hA1 hb1 hs1)
      | (refine wpList_loadJ rfl 27 (.tmp 6) rfl _ 1 rfl cs1 _ hrg Tryd.underlying27 rfl hinf ?_)
      | fail)
    refine (unhide HEN _).mono ?_
    rintro e w5 ⟨u, rfl, ho5, hb5⟩
    obtain ⟨g, c, rfl, _, _, hgB, hcl, hset⟩ := own8_headS ho5 (by rw [HSEC.out.1]; decide)
    rw [HSEC.out.1] at hcl hset
    have hlb := HSEC.out.1
    rw [hlb]
    have HB5 := hide (below_then HB1.out hb5)
    have HA5 := hide (HA1.out.below hb5)
    have HO5 : Hid (Own8 w5 w.heap.size (.slice (some ⟨g, 0, none⟩) 512 c) b0) := hide (by have := ho5.mono HB1.out.size; rw [hlb] at this; exact this)
    have HGB : Hid (w.heap.size ≤ g) := hide (Nat.le_trans HB1.out.size hgB)
    have HSET : Hid (∀ (j : Nat) (x : Int), j < 512 → 0 ≤ x → x ≤ 255 → Own8 (w5.setCell ⟨g, j, none⟩ (.int .u8 x)) w.heap.size (.slice (some ⟨g, 0, none⟩) 512 c) (b0.set j x)) := hide (fun j x h1 h2 h3 => (hset j x h1 h2 h3).mono HB1.out.size)
    have HCL := hide hcl
    clear ho5 hb5 hgB hcl hset hlb HA1 HEN hrg
    obtain ⟨_, _, k106, _⟩ := unhide HRG _ HA5.out
    by_cases hb1 : 0 ≤ bit
    case neg =>
      have hbd : decide (0 ≤ bit) = false := by simpa using hb1
      have HQ := hide (unhide HOUT (fun h => hb1 h.1))
      clear HOUT HIN
      go_wp2
      go_ret
      exact ⟨_, rfl, by rw [HQ.out]; exact HO5.out, HB5.out⟩
    by_cases hb2 : bit < 4096
    case neg =>
      have hbd : decide (bit < 4096) = false := by simpa using hb2
      have HQ := hide (unhide HOUT (fun h => hb2 h.2))
      clear HOUT HIN
      go_wp2
      go_ret
      exact ⟨_, rfl, by rw [HQ.out]; exact HO5.out, HB5.out⟩
    obtain ⟨k, rfl⟩ : ∃ k : Nat, bit = (k : Int) := ⟨bit.toNat, by omega⟩
    have hk : k < 4096 := by omega
    have HQ := hide (unhide HIN k rfl hk)
    obtain ⟨yy, hyx, hy0, hy1, hys⟩ := flipB HSEC.out hk
    obtain ⟨qq, hqq⟩ : ∃ qq, k / 8 = qq := ⟨_, rfl⟩
    obtain ⟨rr, hrr⟩ : ∃ rr, k % 8 = rr := ⟨_, rfl⟩
    rw [hqq] at hyx hys
    rw [hrr] at hyx
    have hr8 : rr < 8 := by omega
    have hq5 : qq < 512 := by omega
    have hdiv : (k : Int).tdiv 8 = (qq : Int) := by rw [Int.tdiv_eq_ediv_of_nonneg (by omega)]; omega
    have hmod : (k : Int).tmod 8 = (rr : Int) := by rw [Int.tmod_eq_emod_of_nonneg (by omega)]; omega
    have hdiv2 : (k : Int) / 8 = (qq : Int) := by omega
    have hmod2 : (k : Int) % 8 = (rr : Int) := by omega
    have hwq : IntKind.i64.wrap (qq : Int) = (qq : Int) := IntWalk.i64_in _ (by omega)
    have hqI : (qq : Int) < 512 := by omega
    obtain ⟨hc5, hf5⟩ := unhide HCL qq hq5
    have hs5 := unhide HSET qq yy hq5 hy0 hy1
    rw [hys] at hs5
    have HS5 := hide hs5
    have HB6 : Hid (Below w.heap.size w (w5.drew.setCell ⟨g, qq, none⟩ (.int .u8 yy))) := hide (HB5.out.drew.setCell HGB.out _)
    have HO6 : Hid (Own8 (w5.drew.setCell ⟨g, qq, none⟩ (.int .u8 yy)) w.heap.size (.slice (some ⟨g, 0, none⟩) 512 c) (turnB b0 k)) := hide (HS5.out.below (by exact ⟨rfl, rfl, rfl, Nat.le_refl _, fun _ _ => rfl⟩))
    have HK6 : Hid ((w5.drew.setCell ⟨g, qq, none⟩ (.int .u8 yy)).cell? ⟨w.heap.size, 106, none⟩ = some (.int .i64 (k : Int))) := hide (by
      have hne : w.heap.size ≠ g := by
        intro e
        have h1 := HA5.out
        unfold Arr at h1
        rcases HO5.out.1.2 with ⟨h0, _⟩ | ⟨g', cap, cur, h0, _, hgg, _⟩
        · cases h0
        · injection h0 with e1
          injection e1 with e1
          injection e1 with e1
          subst e1
          rw [e, hgg] at h1
          simp only [Option.some.injEq, Obj.cells.injEq] at h1
          exact absurd h1.2.1 (by decide)
      have hA6 := arr_grown HA5.out.drew (sgrown_set w5.drew g qq (.int .u8 yy)) (by simpa using hne)
      exact (unhide HRG _ hA6).2.2.1)
    generalize b0.getD qq 0 = xx at *
    obtain ⟨pp, hpp⟩ : ∃ pp : Int, pp = (2 : Int) ^ rr % 256 := ⟨_, rfl⟩
    rw [← hpp] at hyx
    have hpw : IntKind.u8.wrap ((2 : Int) ^ rr) = pp := by rw [hpp]; rw [IntKind.wrap_u8]
    clear hqq hrr hys hs5 HIN HOUT HSET HCL hpp HS5
    go_wp2_with fail
    have HD : Hid (w5.drew.cell? ⟨g, qq, none⟩ = some (.int .u8 xx) ∧ w5.drew.frozen? ⟨g, qq, none⟩ = false) := hide ⟨hc5, hf5⟩
    refine wp_region_held_drew (S := fun W => W.cell? ⟨w.heap.size, 106, none⟩ = some (.int .i64 (k : Int))) (by kernel_rfl) (k106) (fun hHeld => ?_)
    refine wpAnyH_take (i := 0) (v := .slice (some ⟨g, 0, none⟩) 512 c) rfl (by kernel_rfl) (by kernel_rfl) (by kernel_rfl) (fun _ _ _ h => h) (Or.inl ⟨by rfl, fun w hSw => by go_simp⟩) (by assumption) ?_
    simp only [List.getElem_toArray, List.getElem_cons_zero, Act.put, List.setIfInBounds_toArray, List.set_cons_zero, List.set_cons_succ]
    refine wpAnyH_take (i := 1) (v := .pointer (some ⟨w.heap.size, 106, none⟩)) rfl (by kernel_rfl) (by kernel_rfl) (by kernel_rfl) (fun _ _ _ h => h) (Or.inl ⟨by rfl, fun w hSw => by go_simp⟩) (by assumption) ?_
    simp only [List.getElem_toArray, List.getElem_cons_succ, List.getElem_cons_zero, Act.put, List.setIfInBounds_toArray, List.set_cons_zero, List.set_cons_succ]
    refine wpAnyH_take (i := 2) (v := .int .i64 (k : Int)) rfl (by kernel_rfl) (by kernel_rfl) (by kernel_rfl) (fun _ _ _ h => h) (Or.inl ⟨by rfl, fun w hSw => by go_simp⟩) (by assumption) ?_
    simp only [List.getElem_toArray, List.getElem_cons_succ, List.getElem_cons_zero, Act.put, List.setIfInBounds_toArray, List.set_cons_zero, List.set_cons_succ]
    refine wpAnyH_take (i := 3) (v := .int .i64 (qq : Int)) rfl (by kernel_rfl) (by kernel_rfl) (by kernel_rfl) (fun _ _ _ h => h) (Or.inl ⟨by rfl, fun w hSw => by go_simp⟩) (by assumption) ?_
    simp only [List.getElem_toArray, List.getElem_cons_succ, List.getElem_cons_zero, Act.put, List.setIfInBounds_toArray, List.set_cons_zero, List.set_cons_succ]
    refine wpAnyH_take (i := 4) (v := .slice (some ⟨g, 0, none⟩) 512 c) rfl (by kernel_rfl) (by kernel_rfl) (by kernel_rfl) (fun _ _ _ h => h) (Or.inl ⟨by rfl, fun w hSw => by go_simp⟩) (by assumption) ?_
    simp only [List.getElem_toArray, List.getElem_cons_succ, List.getElem_cons_zero, Act.put, List.setIfInBounds_toArray, List.set_cons_zero, List.set_cons_succ]
    refine wpAnyH_take (i := 5) (v := .pointer (some ⟨w.heap.size, 106, none⟩)) rfl (by kernel_rfl) (by kernel_rfl) (by kernel_rfl) (fun _ _ _ h => h) (Or.inl ⟨by rfl, fun w hSw => by go_simp⟩) (by assumption) ?_
    simp only [List.getElem_toArray, List.getElem_cons_succ, List.getElem_cons_zero, Act.put, List.setIfInBounds_toArray, List.set_cons_zero, List.set_cons_succ]
    refine wpAnyH_take (i := 6) (v := .int .i64 (k : Int)) rfl (by kernel_rfl) (by kernel_rfl) (by kernel_rfl) (fun _ _ _ h => h) (Or.inl ⟨by rfl, fun w hSw => by go_simp⟩) (by assumption) ?_
    simp only [List.getElem_toArray, List.getElem_cons_succ, List.getElem_cons_zero, Act.put, List.setIfInBounds_toArray, List.set_cons_zero, List.set_cons_succ]
    refine wpAnyH_take (i := 7) (v := .int .i64 (qq : Int)) rfl (by kernel_rfl) (by kernel_rfl) (by kernel_rfl) (fun _ _ _ h => h) (Or.inl ⟨by rfl, fun w hSw => by go_simp⟩) (by assumption) ?_
    simp only [List.getElem_toArray, List.getElem_cons_succ, List.getElem_cons_zero, Act.put, List.setIfInBounds_toArray, List.set_cons_zero, List.set_cons_succ]
    refine wpAnyH_take (i := 8) (v := .pointer (some ⟨g, qq, none⟩)) rfl (by kernel_rfl) (by kernel_rfl) (by kernel_rfl) (fun _ _ _ h => h) (Or.inl ⟨by rfl, fun w hSw => by go_simp⟩) (by assumption) ?_
    simp only [List.getElem_toArray, List.getElem_cons_succ, List.getElem_cons_zero, Act.put, List.setIfInBounds_toArray, List.set_cons_zero, List.set_cons_succ]
    refine wpAnyH_take (i := 10) (v := .pointer (some ⟨w.heap.size, 106, none⟩)) rfl (by kernel_rfl) (by kernel_rfl) (by kernel_rfl) (fun _ _ _ h => h) (Or.inl ⟨by rfl, fun w hSw => by go_simp⟩) (by assumption) ?_
    simp only [List.getElem_toArray, List.getElem_cons_succ, List.getElem_cons_zero, Act.put, List.setIfInBounds_toArray, List.set_cons_zero, List.set_cons_succ]
    refine wpAnyH_take (i := 11) (v := .int .i64 (k : Int)) rfl (by kernel_rfl) (by kernel_rfl) (by kernel_rfl) (fun _ _ _ h => h) (Or.inl ⟨by rfl, fun w hSw => by go_simp⟩) (by assumption) ?_
    simp only [List.getElem_toArray, List.getElem_cons_succ, List.getElem_cons_zero, Act.put, List.setIfInBounds_toArray, List.set_cons_zero, List.set_cons_succ]
    refine wpAnyH_take (i := 12) (v := .int .i64 (rr : Int)) rfl (by kernel_rfl) (by kernel_rfl) (by kernel_rfl) (fun _ _ _ h => h) (Or.inl ⟨by rfl, fun w hSw => by go_simp⟩) (by assumption) ?_
    simp only [List.getElem_toArray, List.getElem_cons_succ, List.getElem_cons_zero, Act.put, List.setIfInBounds_toArray, List.set_cons_zero, List.set_cons_succ]
    refine wpAnyH_take (i := 13) (v := .int .u8 pp) rfl (by kernel_rfl) (by kernel_rfl) (by kernel_rfl) (fun _ _ _ h => h) (Or.inl ⟨by rfl, fun w hSw => by go_simp⟩) (by assumption) ?_
    simp only [List.getElem_toArray, List.getElem_cons_succ, List.getElem_cons_zero, Act.put, List.setIfInBounds_toArray, List.set_cons_zero, List.set_cons_succ]
    refine wpAnyH_ready (rs := [9]) (by kernel_rfl) (by simp) (AllReadyH.cons rfl (fun K hK => ?_) AllReadyH.nil)
    refine step_load1 (by rfl) 5 (.tmp 34) rfl rfl (load8S HD.out.1) ?_
    refine hK.out _ _ (k106) (fun hJ0 => ?_)
    clear hK K
    simp only [List.getElem_toArray, List.getElem_cons_succ, List.getElem_cons_zero, Act.put, List.setIfInBounds_toArray, List.set_cons_zero, List.set_cons_succ]
    refine wpAnyH_take (i := 14) (v := .int .u8 yy) rfl (by kernel_rfl) (by kernel_rfl) (by kernel_rfl) (fun _ _ _ h => h) (Or.inl ⟨by rfl, fun w hSw => by go_simp⟩) (by assumption) ?_
    simp only [List.getElem_toArray, List.getElem_cons_succ, List.getElem_cons_zero, Act.put, List.setIfInBounds_toArray, List.set_cons_zero, List.set_cons_succ]
    refine wpAnyH_take (i := 15) (v := .pointer (some ⟨g, qq, none⟩)) rfl (by kernel_rfl) (by kernel_rfl) (by kernel_rfl) (fun _ _ _ h => h) (Or.inl ⟨by rfl, fun w hSw => by go_simp⟩) (by assumption) ?_
    simp only [List.getElem_toArray, List.getElem_cons_succ, List.getElem_cons_zero, Act.put, List.setIfInBounds_toArray, List.set_cons_zero, List.set_cons_succ]
    refine wpAnyH_ready (rs := [16]) (by kernel_rfl) (by simp) (AllReadyH.cons rfl (fun K hK => ?_) AllReadyH.nil)
    refine step_store1 (by rfl) 5 (.tmp 41) (.tmp 40) rfl rfl rfl (store8S HD.out.1 HD.out.2) ?_
    refine hK.out _ _ (HK6.out) (fun hJ1 => ?_)
    clear hK K
    simp only [List.getElem_toArray, List.getElem_cons_succ, List.getElem_cons_zero, Act.put]
    refine wpAnyH_done (by kernel_rfl) ?_ _
    go_wp2
    go_ret
    exact ⟨_, rfl, by rw [HQ.out]; exact HO6.out, HB6.out⟩
  · have HEN : Hid (∀ W : World, Calls Tryd.prog 10 #[.agg (slV s).toArray] W fun e w' => e = .returned (.tuple #[.slice none 0 0, .int .i64 180]) ∧ Below W.heap.size W w') := hide (fun W => renc_no hs hm)
    have HB0 : Hid (bts0 s raw = raw.take 512 ++ List.replicate (512 - (raw.take 512).length) 0) := hide (by unfold bts0; rw [if_neg (by rw [SL.may_no hm]; decide)])
    have HROW : Hid ((raw.take 512).map (Value.int .u8) ++ (List.replicate 512 (Value.int .u8 0)).drop (raw.take 512).length = (bts0 s raw).map (Value.int .u8)) := hide (by rw [HB0.out, List.map_append, List.map_replicate, List.drop_replicate])
    generalize bts0 s raw = b0 at *
    generalize bts s bit raw = bR at *
    generalize slV s = cs1 at *
    clear hs hr hm hpv
    by_cases hb1 : 0 ≤ bit
    case neg =>
      have hbd : decide (0 ≤ bit) = false := by simpa using hb1
      have HQ := hide (unhide HOUT (fun h => hb1 h.1))
      clear HOUT HIN
      go_enter Tryd.func15, Tryd.ntmps15
      go_wp2_with (first
        | (refine wpList_boxJ rfl 48 (.tmp 0) rfl rfl ?_; intro w1 hA1 hb1 hs1
           obtain ⟨hrg, _, _, _⟩ := unhide HRG w1 hA1
           have HA1 := hide hA1
           have HB1 := hide hb1
           clear hA1 hb1 hs1)
        | (refine wpList_loadJ rfl 27 (.tmp 6) rfl _ 1 rfl cs1 _ hrg Tryd.underlying27 rfl hinf ?_)
        | fail)
      refine (unhide HEN _).mono ?_
      rintro e w2 ⟨rfl, hb2⟩
      have hA2 := HA1.out.below hb2
      have HA2 := hide hA2
      have HB2 := hide (below_then HB1.out hb2)
      clear HEN hb2 hrg hA2 HA1
      go_wp2_with (first
        | (at_make; refine wpList_make_full _ rfl _ _ 28 rfl w2.heap.size 5 i0 (.int .u8 0) 1 Tryd.underlying28 hi hz0 hz1 _ _ _ _ 512 rfl rfl rfl rfl (by omega) (by unfold maxLen; omega) (Nat.le_refl _) ?_; intro w3 hr3 hg3
           have hrow3 := row_made (n := 512) hr3
           have hb3 := below_none hg3
           obtain ⟨_, _, _, k107⟩ := unhide HRG _ (HA2.out.below hb3)
           have hI3 := unhide HRAW _ (below_then HB2.out hb3)
           have HB3 := hide (below_then HB2.out hb3)
           have HA3 := hide (HA2.out.below hb3)
           have HLT : Hid (w.heap.size < w2.heap.size ∧ w2.heap.size ≤ w3.heap.size) := hide ⟨HA2.out.lt, hb3.size⟩
           clear hr3 hg3 hb3)
        | (refine wpList_copyCut rfl (.tmp 14) (.tmp 16) rfl rfl rfl hrow3 hI3 ?_; intro w5 hr5 hg5
           have hA5 := arr_grown HA3.out hg5 (by have := HLT.out; simp; omega)
           obtain ⟨_, _, k106, _⟩ := unhide HRG _ hA5
           have HA5 := hide hA5
           have HB5 := hide (jbelow_grown HB3.out hg5 HB3.out.size (Nat.le_of_lt HLT.out.1))
           have HO5 : Hid (Own8 w5 w.heap.size (.slice (some ⟨w2.heap.size, 0, none⟩) 512 512) b0) := hide (by rw [HROW.out] at hr5; have hr6 := hr5; unfold Row at hr6; rw [List.length_map, HSEC.out.1] at hr6; have hq : Own8 w5 w2.heap.size (.slice (some ⟨w2.heap.size, 0, none⟩) 512 512) b0 := ⟨by rw [HSEC.out.1]; exact hr6, HSEC.out.2⟩; exact hq.mono (Nat.le_of_lt HLT.out.1))
           clear hr5 hg5 hA5 hrow3 hI3 k107)
        | fail)
      go_ret
      exact ⟨_, rfl, by rw [HQ.out]; exact HO5.out, HB5.out⟩
    by_cases hb2 : bit < 4096
    case neg =>
      have hbd : decide (bit < 4096) = false := by simpa using hb2
      have HQ := hide (unhide HOUT (fun h => hb2 h.2))
      clear HOUT HIN
      go_enter Tryd.func15, Tryd.ntmps15
      go_wp2_with (first
        | (refine wpList_boxJ rfl 48 (.tmp 0) rfl rfl ?_; intro w1 hA1 hb1 hs1
           obtain ⟨hrg, _, _, _⟩ := unhide HRG w1 hA1
           have HA1 := hide hA1
           have HB1 := hide hb1
           clear hA1 hb1 hs1)
        | (refine wpList_loadJ rfl 27 (.tmp 6) rfl _ 1 rfl cs1 _ hrg Tryd.underlying27 rfl hinf ?_)
        | fail)
      refine (unhide HEN _).mono ?_
      rintro e w2 ⟨rfl, hb2⟩
      have hA2 := HA1.out.below hb2
      have HA2 := hide hA2
      have HB2 := hide (below_then HB1.out hb2)
      clear HEN hb2 hrg hA2 HA1
      go_wp2_with (first
        | (at_make; refine wpList_make_full _ rfl _ _ 28 rfl w2.heap.size 5 i0 (.int .u8 0) 1 Tryd.underlying28 hi hz0 hz1 _ _ _ _ 512 rfl rfl rfl rfl (by omega) (by unfold maxLen; omega) (Nat.le_refl _) ?_; intro w3 hr3 hg3
           have hrow3 := row_made (n := 512) hr3
           have hb3 := below_none hg3
           obtain ⟨_, _, _, k107⟩ := unhide HRG _ (HA2.out.below hb3)
           have hI3 := unhide HRAW _ (below_then HB2.out hb3)
           have HB3 := hide (below_then HB2.out hb3)
           have HA3 := hide (HA2.out.below hb3)
           have HLT : Hid (w.heap.size < w2.heap.size ∧ w2.heap.size ≤ w3.heap.size) := hide ⟨HA2.out.lt, hb3.size⟩
           clear hr3 hg3 hb3)
        | (refine wpList_copyCut rfl (.tmp 14) (.tmp 16) rfl rfl rfl hrow3 hI3 ?_; intro w5 hr5 hg5
           have hA5 := arr_grown HA3.out hg5 (by have := HLT.out; simp; omega)
           obtain ⟨_, _, k106, _⟩ := unhide HRG _ hA5
           have HA5 := hide hA5
           have HB5 := hide (jbelow_grown HB3.out hg5 HB3.out.size (Nat.le_of_lt HLT.out.1))
           have HO5 : Hid (Own8 w5 w.heap.size (.slice (some ⟨w2.heap.size, 0, none⟩) 512 512) b0) := hide (by rw [HROW.out] at hr5; have hr6 := hr5; unfold Row at hr6; rw [List.length_map, HSEC.out.1] at hr6; have hq : Own8 w5 w2.heap.size (.slice (some ⟨w2.heap.size, 0, none⟩) 512 512) b0 := ⟨by rw [HSEC.out.1]; exact hr6, HSEC.out.2⟩; exact hq.mono (Nat.le_of_lt HLT.out.1))
           clear hr5 hg5 hA5 hrow3 hI3 k107)
        | fail)
      go_ret
      exact ⟨_, rfl, by rw [HQ.out]; exact HO5.out, HB5.out⟩
    obtain ⟨k, rfl⟩ : ∃ k : Nat, bit = (k : Int) := ⟨bit.toNat, by omega⟩
    have hk : k < 4096 := by omega
    have HQ := hide (unhide HIN k rfl hk)
    obtain ⟨yy, hyx, hy0, hy1, hys⟩ := flipB HSEC.out hk
    obtain ⟨qq, hqq⟩ : ∃ qq, k / 8 = qq := ⟨_, rfl⟩
    obtain ⟨rr, hrr⟩ : ∃ rr, k % 8 = rr := ⟨_, rfl⟩
    rw [hqq] at hyx hys
    rw [hrr] at hyx
    have hr8 : rr < 8 := by omega
    have hq5 : qq < 512 := by omega
    have hdiv : (k : Int).tdiv 8 = (qq : Int) := by rw [Int.tdiv_eq_ediv_of_nonneg (by omega)]; omega
    have hmod : (k : Int).tmod 8 = (rr : Int) := by rw [Int.tmod_eq_emod_of_nonneg (by omega)]; omega
    have hdiv2 : (k : Int) / 8 = (qq : Int) := by omega
    have hmod2 : (k : Int) % 8 = (rr : Int) := by omega
    have hwq : IntKind.i64.wrap (qq : Int) = (qq : Int) := IntWalk.i64_in _ (by omega)
    have hqI : (qq : Int) < 512 := by omega
    go_enter Tryd.func15, Tryd.ntmps15
    go_wp2_with (first
      | (refine wpList_boxJ rfl 48 (.tmp 0) rfl rfl ?_; intro w1 hA1 hb1 hs1
         obtain ⟨hrg, _, _, _⟩ := unhide HRG w1 hA1
         have HA1 := hide hA1
         have HB1 := hide hb1
         clear hA1 hb1 hs1)
      | (refine wpList_loadJ rfl 27 (.tmp 6) rfl _ 1 rfl cs1 _ hrg Tryd.underlying27 rfl hinf ?_)
      | fail)
    refine (unhide HEN _).mono ?_
    rintro e w2 ⟨rfl, hb2⟩
    have hA2 := HA1.out.below hb2
    have HA2 := hide hA2
    have HB2 := hide (below_then HB1.out hb2)
    clear HEN hb2 hrg hA2 HA1
    go_wp2_with (first
      | (at_make; refine wpList_make_full _ rfl _ _ 28 rfl w2.heap.size 5 i0 (.int .u8 0) 1 Tryd.underlying28 hi hz0 hz1 _ _ _ _ 512 rfl rfl rfl rfl (by omega) (by unfold maxLen; omega) (Nat.le_refl _) ?_; intro w3 hr3 hg3
         have hrow3 := row_made (n := 512) hr3
         have hb3 := below_none hg3
         obtain ⟨_, _, _, k107⟩ := unhide HRG _ (HA2.out.below hb3)
         have hI3 := unhide HRAW _ (below_then HB2.out hb3)
         have HB3 := hide (below_then HB2.out hb3)
         have HA3 := hide (HA2.out.below hb3)
         have HLT : Hid (w.heap.size < w2.heap.size ∧ w2.heap.size ≤ w3.heap.size) := hide ⟨HA2.out.lt, hb3.size⟩
         clear hr3 hg3 hb3)
      | (refine wpList_copyCut rfl (.tmp 14) (.tmp 16) rfl rfl rfl hrow3 hI3 ?_; intro w5 hr5 hg5
         have hA5 := arr_grown HA3.out hg5 (by have := HLT.out; simp; omega)
         obtain ⟨_, _, k106, _⟩ := unhide HRG _ hA5
         have HA5 := hide hA5
         have HB5 := hide (jbelow_grown HB3.out hg5 HB3.out.size (Nat.le_of_lt HLT.out.1))
         have HO5 : Hid (Own8 w5 w.heap.size (.slice (some ⟨w2.heap.size, 0, none⟩) 512 512) b0) := hide (by rw [HROW.out] at hr5; have hr6 := hr5; unfold Row at hr6; rw [List.length_map, HSEC.out.1] at hr6; have hq : Own8 w5 w2.heap.size (.slice (some ⟨w2.heap.size, 0, none⟩) 512 512) b0 := ⟨by rw [HSEC.out.1]; exact hr6, HSEC.out.2⟩; exact hq.mono (Nat.le_of_lt HLT.out.1))
         clear hr5 hg5 hA5 hrow3 hI3 k107)
      | fail)
    obtain ⟨g', c', hv, _, _, hgB, hcl, hset⟩ := own8_headS HO5.out (by rw [HSEC.out.1]; decide)
    rw [HSEC.out.1] at hv hcl hset
    injection hv with e1 e2 e3
    injection e1 with e1
    injection e1 with e1 e4
    subst e1 e3
    have HGB : Hid (w.heap.size ≤ w2.heap.size) := hide hgB
    have HSET := hide hset
    have HCL := hide hcl
    generalize w2.heap.size = g at *
    clear hgB hcl hset e2
    obtain ⟨hc5, hf5⟩ := unhide HCL qq hq5
    have hs5 := unhide HSET qq yy hq5 hy0 hy1
    rw [hys] at hs5
    have HS5 := hide hs5
    have HB6 : Hid (Below w.heap.size w (w5.drew.setCell ⟨g, qq, none⟩ (.int .u8 yy))) := hide (HB5.out.drew.setCell HGB.out _)
    have HO6 : Hid (Own8 (w5.drew.setCell ⟨g, qq, none⟩ (.int .u8 yy)) w.heap.size (.slice (some ⟨g, 0, none⟩) 512 512) (turnB b0 k)) := hide (HS5.out.below (by exact ⟨rfl, rfl, rfl, Nat.le_refl _, fun _ _ => rfl⟩))
    have HK6 : Hid ((w5.drew.setCell ⟨g, qq, none⟩ (.int .u8 yy)).cell? ⟨w.heap.size, 106, none⟩ = some (.int .i64 (k : Int))) := hide (by
      have hne : w.heap.size ≠ g := by
        intro e
        have h1 := HA5.out
        unfold Arr at h1
        rcases HO5.out.1.2 with ⟨h0, _⟩ | ⟨g', cap, cur, h0, _, hgg, _⟩
        · cases h0
        · injection h0 with e1
          injection e1 with e1
          injection e1 with e1
          subst e1
          rw [e, hgg] at h1
          simp only [Option.some.injEq, Obj.cells.injEq] at h1
          exact absurd h1.2.1 (by decide)
      have hA6 := arr_grown HA5.out.drew (sgrown_set w5.drew g qq (.int .u8 yy)) (by simpa using hne)
      exact (unhide HRG _ hA6).2.2.1)
    generalize b0.getD qq 0 = xx at *
    obtain ⟨pp, hpp⟩ : ∃ pp : Int, pp = (2 : Int) ^ rr % 256 := ⟨_, rfl⟩
    rw [← hpp] at hyx
    have hpw : IntKind.u8.wrap ((2 : Int) ^ rr) = pp := by rw [hpp]; rw [IntKind.wrap_u8]
    clear hqq hrr hys hs5 HIN HOUT HSET HCL hpp HS5
    have HD : Hid (w5.drew.cell? ⟨g, qq, none⟩ = some (.int .u8 xx) ∧ w5.drew.frozen? ⟨g, qq, none⟩ = false) := hide ⟨hc5, hf5⟩
    refine wp_region_held_drew (S := fun W => W.cell? ⟨w.heap.size, 106, none⟩ = some (.int .i64 (k : Int))) (by kernel_rfl) (k106) (fun hHeld => ?_)
    refine wpAnyH_take (i := 0) (v := .slice (some ⟨g, 0, none⟩) 512 512) rfl (by kernel_rfl) (by kernel_rfl) (by kernel_rfl) (fun _ _ _ h => h) (Or.inl ⟨by rfl, fun w hSw => by go_simp⟩) (by assumption) ?_
    simp only [List.getElem_toArray, List.getElem_cons_zero, Act.put, List.setIfInBounds_toArray, List.set_cons_zero, List.set_cons_succ]
    refine wpAnyH_take (i := 1) (v := .pointer (some ⟨w.heap.size, 106, none⟩)) rfl (by kernel_rfl) (by kernel_rfl) (by kernel_rfl) (fun _ _ _ h => h) (Or.inl ⟨by rfl, fun w hSw => by go_simp⟩) (by assumption) ?_
    simp only [List.getElem_toArray, List.getElem_cons_succ, List.getElem_cons_zero, Act.put, List.setIfInBounds_toArray, List.set_cons_zero, List.set_cons_succ]
    refine wpAnyH_take (i := 2) (v := .int .i64 (k : Int)) rfl (by kernel_rfl) (by kernel_rfl) (by kernel_rfl) (fun _ _ _ h => h) (Or.inl ⟨by rfl, fun w hSw => by go_simp⟩) (by assumption) ?_
    simp only [List.getElem_toArray, List.getElem_cons_succ, List.getElem_cons_zero, Act.put, List.setIfInBounds_toArray, List.set_cons_zero, List.set_cons_succ]
    refine wpAnyH_take (i := 3) (v := .int .i64 (qq : Int)) rfl (by kernel_rfl) (by kernel_rfl) (by kernel_rfl) (fun _ _ _ h => h) (Or.inl ⟨by rfl, fun w hSw => by go_simp⟩) (by assumption) ?_
    simp only [List.getElem_toArray, List.getElem_cons_succ, List.getElem_cons_zero, Act.put, List.setIfInBounds_toArray, List.set_cons_zero, List.set_cons_succ]
    refine wpAnyH_take (i := 4) (v := .slice (some ⟨g, 0, none⟩) 512 512) rfl (by kernel_rfl) (by kernel_rfl) (by kernel_rfl) (fun _ _ _ h => h) (Or.inl ⟨by rfl, fun w hSw => by go_simp⟩) (by assumption) ?_
    simp only [List.getElem_toArray, List.getElem_cons_succ, List.getElem_cons_zero, Act.put, List.setIfInBounds_toArray, List.set_cons_zero, List.set_cons_succ]
    refine wpAnyH_take (i := 5) (v := .pointer (some ⟨w.heap.size, 106, none⟩)) rfl (by kernel_rfl) (by kernel_rfl) (by kernel_rfl) (fun _ _ _ h => h) (Or.inl ⟨by rfl, fun w hSw => by go_simp⟩) (by assumption) ?_
    simp only [List.getElem_toArray, List.getElem_cons_succ, List.getElem_cons_zero, Act.put, List.setIfInBounds_toArray, List.set_cons_zero, List.set_cons_succ]
    refine wpAnyH_take (i := 6) (v := .int .i64 (k : Int)) rfl (by kernel_rfl) (by kernel_rfl) (by kernel_rfl) (fun _ _ _ h => h) (Or.inl ⟨by rfl, fun w hSw => by go_simp⟩) (by assumption) ?_
    simp only [List.getElem_toArray, List.getElem_cons_succ, List.getElem_cons_zero, Act.put, List.setIfInBounds_toArray, List.set_cons_zero, List.set_cons_succ]
    refine wpAnyH_take (i := 7) (v := .int .i64 (qq : Int)) rfl (by kernel_rfl) (by kernel_rfl) (by kernel_rfl) (fun _ _ _ h => h) (Or.inl ⟨by rfl, fun w hSw => by go_simp⟩) (by assumption) ?_
    simp only [List.getElem_toArray, List.getElem_cons_succ, List.getElem_cons_zero, Act.put, List.setIfInBounds_toArray, List.set_cons_zero, List.set_cons_succ]
    refine wpAnyH_take (i := 8) (v := .pointer (some ⟨g, qq, none⟩)) rfl (by kernel_rfl) (by kernel_rfl) (by kernel_rfl) (fun _ _ _ h => h) (Or.inl ⟨by rfl, fun w hSw => by go_simp⟩) (by assumption) ?_
    simp only [List.getElem_toArray, List.getElem_cons_succ, List.getElem_cons_zero, Act.put, List.setIfInBounds_toArray, List.set_cons_zero, List.set_cons_succ]
    refine wpAnyH_take (i := 10) (v := .pointer (some ⟨w.heap.size, 106, none⟩)) rfl (by kernel_rfl) (by kernel_rfl) (by kernel_rfl) (fun _ _ _ h => h) (Or.inl ⟨by rfl, fun w hSw => by go_simp⟩) (by assumption) ?_
    simp only [List.getElem_toArray, List.getElem_cons_succ, List.getElem_cons_zero, Act.put, List.setIfInBounds_toArray, List.set_cons_zero, List.set_cons_succ]
    refine wpAnyH_take (i := 11) (v := .int .i64 (k : Int)) rfl (by kernel_rfl) (by kernel_rfl) (by kernel_rfl) (fun _ _ _ h => h) (Or.inl ⟨by rfl, fun w hSw => by go_simp⟩) (by assumption) ?_
    simp only [List.getElem_toArray, List.getElem_cons_succ, List.getElem_cons_zero, Act.put, List.setIfInBounds_toArray, List.set_cons_zero, List.set_cons_succ]
    refine wpAnyH_take (i := 12) (v := .int .i64 (rr : Int)) rfl (by kernel_rfl) (by kernel_rfl) (by kernel_rfl) (fun _ _ _ h => h) (Or.inl ⟨by rfl, fun w hSw => by go_simp⟩) (by assumption) ?_
    simp only [List.getElem_toArray, List.getElem_cons_succ, List.getElem_cons_zero, Act.put, List.setIfInBounds_toArray, List.set_cons_zero, List.set_cons_succ]
    refine wpAnyH_take (i := 13) (v := .int .u8 pp) rfl (by kernel_rfl) (by kernel_rfl) (by kernel_rfl) (fun _ _ _ h => h) (Or.inl ⟨by rfl, fun w hSw => by go_simp⟩) (by assumption) ?_
    simp only [List.getElem_toArray, List.getElem_cons_succ, List.getElem_cons_zero, Act.put, List.setIfInBounds_toArray, List.set_cons_zero, List.set_cons_succ]
    refine wpAnyH_ready (rs := [9]) (by kernel_rfl) (by simp) (AllReadyH.cons rfl (fun K hK => ?_) AllReadyH.nil)
    refine step_load1 (by rfl) 5 (.tmp 34) rfl rfl (load8S HD.out.1) ?_
    refine hK.out _ _ (k106) (fun hJ0 => ?_)
    clear hK K
    simp only [List.getElem_toArray, List.getElem_cons_succ, List.getElem_cons_zero, Act.put, List.setIfInBounds_toArray, List.set_cons_zero, List.set_cons_succ]
    refine wpAnyH_take (i := 14) (v := .int .u8 yy) rfl (by kernel_rfl) (by kernel_rfl) (by kernel_rfl) (fun _ _ _ h => h) (Or.inl ⟨by rfl, fun w hSw => by go_simp⟩) (by assumption) ?_
    simp only [List.getElem_toArray, List.getElem_cons_succ, List.getElem_cons_zero, Act.put, List.setIfInBounds_toArray, List.set_cons_zero, List.set_cons_succ]
    refine wpAnyH_take (i := 15) (v := .pointer (some ⟨g, qq, none⟩)) rfl (by kernel_rfl) (by kernel_rfl) (by kernel_rfl) (fun _ _ _ h => h) (Or.inl ⟨by rfl, fun w hSw => by go_simp⟩) (by assumption) ?_
    simp only [List.getElem_toArray, List.getElem_cons_succ, List.getElem_cons_zero, Act.put, List.setIfInBounds_toArray, List.set_cons_zero, List.set_cons_succ]
    refine wpAnyH_ready (rs := [16]) (by kernel_rfl) (by simp) (AllReadyH.cons rfl (fun K hK => ?_) AllReadyH.nil)
    refine step_store1 (by rfl) 5 (.tmp 41) (.tmp 40) rfl rfl rfl (store8S HD.out.1 HD.out.2) ?_
    refine hK.out _ _ (HK6.out) (fun hJ1 => ?_)
    clear hK K
    simp only [List.getElem_toArray, List.getElem_cons_succ, List.getElem_cons_zero, Act.put]
    refine wpAnyH_done (by kernel_rfl) ?_ _
    go_wp2
    go_ret
    exact ⟨_, rfl, by rw [HQ.out]; exact HO6.out, HB6.out⟩
end Go.Proofs.YtbgknbjpbobebaaDoor
