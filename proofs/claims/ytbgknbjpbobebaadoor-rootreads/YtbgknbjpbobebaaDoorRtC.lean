/- What RootOneBit answers. -/
import Derived.Test.YtbgknbjpbobebaaDoorRtL
import Derived.Test.YtbgknbjpbobebaaDoorKN
namespace Go.Proofs.YtbgknbjpbobebaaDoor
open Go.RowKit Go.Maps

theorem own8_headS {w : World} {B : Nat} {u : Value} {s : List Int} (h : Own8 w B u s) (hp : 0 < s.length) : ∃ g c, u = .slice (some ⟨g, 0, none⟩) s.length c ∧ s.length ≤ c ∧ c ≤ 9223372036854775807 ∧ B ≤ g ∧ (∀ j, j < s.length → w.cell? ⟨g, j, none⟩ = some (.int .u8 (s.getD j 0)) ∧ w.frozen? ⟨g, j, none⟩ = false) ∧
    ∀ (j : Nat) (x : Int), j < s.length → 0 ≤ x → x ≤ 255 → Own8 (w.setCell ⟨g, j, none⟩ (.int .u8 x)) B (.slice (some ⟨g, 0, none⟩) s.length c) (s.set j x) := by
  obtain ⟨h1, h2⟩ := h
  rcases h1.2 with ⟨rfl, h0⟩ | ⟨g, cap, cur, rfl, hb, hg, hle, hm, hsz, ht⟩
  · omega
  · simp only [Nat.mul_one] at hsz ht
    have hcell : ∀ j, j < s.length → w.cell? ⟨g, j, none⟩ = some (.int .u8 (s.getD j 0)) := fun j hj => by
      have := h1.cells (g := g) rfl j (.int .u8 (s.getD j 0)) (by rw [List.getElem?_map, List.getElem?_eq_getElem hj, List.getD_eq_getElem?_getD, List.getElem?_eq_getElem hj]; rfl)
      rw [Addr.add_lit, Nat.zero_add] at this
      exact this
    refine ⟨g, cap, rfl, hle, by simpa [maxLen] using hm, hb, fun j hj => ⟨hcell j hj, by unfold World.frozen?; rw [hg]; simp⟩, fun j x hj h0 h255 => ⟨⟨by simp, .inr ⟨g, cap, _, by rw [List.length_set], hb, heap_setCell_same w g j cur 5 (.int .u8 x) hg, by rw [List.length_set]; exact hle, hm, by simp [hsz], ?_⟩⟩, fun y hy => ?_⟩⟩
    · rw [List.length_set, Nat.mul_one, List.map_set, ← ht]
      apply List.ext_getElem?
      intro q
      simp only [Array.toList_setIfInBounds]
      rw [List.take_set]
    · rcases List.mem_or_eq_of_mem_set hy with hy | hy
      · exact h2 y hy
      · omega
theorem load8S {W : World} {b o : Nat} {x : Int} (h : W.cell? ⟨b, o, none⟩ = some (.int .u8 x)) : (Instr.loadAt 5 (.pointer (some ⟨b, o, none⟩))).run Tryd.prog W = .ok (.int .u8 x) W := by
  have hu := Tryd.underlying5
  go_simp
theorem store8S {W : World} {b o : Nat} {u : Value} {x : Int} (h : W.cell? ⟨b, o, none⟩ = some u) (hf : W.frozen? ⟨b, o, none⟩ = false) : (Instr.storeAt 5 (.pointer (some ⟨b, o, none⟩)) (.int .u8 x)).run Tryd.prog W = .ok () (W.setCell ⟨b, o, none⟩ (.int .u8 x)) := by
  have hu := Tryd.underlying5
  go_simp
set_option maxRecDepth 100000 in
set_option maxHeartbeats 4000000 in
theorem rootOneBit_walk {w : World} {s : SL} (x : Int) (hs : s.Ok) (ht : Tab w) : Calls Tryd.prog 8 #[.agg (slV s).toArray, .int .i64 x] w fun e w' => e = .returned (.bool true) ∧ Below w.heap.size w w' := by
  have hinf := infoSof hs
  have HMY : Hid (∀ W, Calls Tryd.prog 27 #[.agg (slV s).toArray] W fun e w' => e = .returned (.bool s.may) ∧ Below W.heap.size W w') := hide (fun W => lmay_calls hs)
  have HST : Hid (∀ W, Below w.heap.size w W → Calls Tryd.prog 28 #[] W fun e w' => e = .returned (.bool true) ∧ Below W.heap.size W w') := hide (fun W hW => started_calls18 (ht.below hW))
  by_cases hm : s.May
  case neg =>
    rw [SL.may_no hm] at HMY
    generalize slV s = cs1 at *
    clear hs hm ht
    go_enter Tryd.func8, Tryd.ntmps8
    go_wp2_with (first
      | (refine wpList_boxJ rfl 27 (.tmp 0) rfl rfl ?_; intro w1 hA1 hb1 hs1
         have hrg := hA1.rangeJ
         have HA1 := hide hA1
         have HB1 := hide hb1
         clear hA1 hb1 hs1)
      | (refine wpList_loadJ rfl 27 (.tmp 2) rfl _ 0 rfl cs1 _ hrg Tryd.underlying27 rfl hinf ?_)
      | fail)
    refine (unhide HMY _).mono ?_
    rintro e w2 ⟨rfl, hb2⟩
    have HB2 := hide (below_then HB1.out hb2)
    clear hrg HMY
    go_wp2_with fail
    refine (unhide HST _ HB2.out).mono ?_
    rintro e w4 ⟨rfl, hb4⟩
    have HB4 := hide (below_then HB2.out hb4)
    clear hb4 HST hb2
    go_wp2
    go_ret
    exact ⟨rfl, HB4.out⟩
  case pos =>
    rw [(SL.may_iff s).2 hm] at HMY
    by_cases h0 : x < 0
    · generalize slV s = cs1 at *
      clear hs hm ht
      go_enter Tryd.func8, Tryd.ntmps8
      go_wp2_with (first
        | (refine wpList_boxJ rfl 27 (.tmp 0) rfl rfl ?_; intro w1 hA1 hb1 hs1
           have hrg := hA1.rangeJ
           have HA1 := hide hA1
           have HB1 := hide hb1
           clear hA1 hb1 hs1)
        | (refine wpList_loadJ rfl 27 (.tmp 2) rfl _ 0 rfl cs1 _ hrg Tryd.underlying27 rfl hinf ?_)
        | fail)
      refine (unhide HMY _).mono ?_
      rintro e w2 ⟨rfl, hb2⟩
      have HB2 := hide (below_then HB1.out hb2)
      clear hrg HMY
      go_wp2_with fail
      refine (unhide HST _ HB2.out).mono ?_
      rintro e w4 ⟨rfl, hb4⟩
      have HB4 := hide (below_then HB2.out hb4)
      clear hb4 HST hb2
      go_wp2
      go_ret
      exact ⟨rfl, HB4.out⟩
    · have d0 : decide (x < 0) = false := by simpa using h0
      by_cases h1 : 4095 < x
      · generalize slV s = cs1 at *
        clear hs hm ht h0
        go_enter Tryd.func8, Tryd.ntmps8
        go_wp2_with (first
          | (refine wpList_boxJ rfl 27 (.tmp 0) rfl rfl ?_; intro w1 hA1 hb1 hs1
             have hrg := hA1.rangeJ
             have HA1 := hide hA1
             have HB1 := hide hb1
             clear hA1 hb1 hs1)
          | (refine wpList_loadJ rfl 27 (.tmp 2) rfl _ 0 rfl cs1 _ hrg Tryd.underlying27 rfl hinf ?_)
          | fail)
        refine (unhide HMY _).mono ?_
        rintro e w2 ⟨rfl, hb2⟩
        have HB2 := hide (below_then HB1.out hb2)
        clear hrg HMY
        go_wp2_with fail
        refine (unhide HST _ HB2.out).mono ?_
        rintro e w4 ⟨rfl, hb4⟩
        have HB4 := hide (below_then HB2.out hb4)
        clear hb4 HST hb2
        go_wp2
        go_ret
        exact ⟨rfl, HB4.out⟩
      · have d1 : decide (4095 < x) = false := by simpa using h1
        obtain ⟨k, rfl⟩ : ∃ k : Nat, x = (k : Int) := ⟨x.toNat, by omega⟩
        have hk : k < 4096 := by omega
        have HEN : Hid (∀ W, Below w.heap.size w W → Calls Tryd.prog 9 #[.agg (slV s).toArray] W fun e w' => ∃ u, e = .returned (.tuple #[u, .int .i64 0]) ∧ Own8 w' W.heap.size u (slL s) ∧ Below W.heap.size W w') := hide (fun W hW => senc_good hs hm (ht.below hW))
        have HDC : Hid (∀ W v, Below w.heap.size w W → IsB W v (turnB (slL s) k) → Calls Tryd.prog 29 #[v] W fun e w' => e = .returned (.tuple #[.agg (slV .nul).toArray, .int .i64 180]) ∧ Below W.heap.size W w') := hide (fun W v hW hI => by
          have := sdec_calls hI (ht.below hW)
          have hn := turn_noneS (slL_by hs) (decS_sl hs hm) hk
          rw [(decSR_none hn).1, (decSR_none hn).2] at this
          exact this)
        have HLN := hide (slL_len hs)
        have hby := slL_by hs
        obtain ⟨qq, hqq⟩ : ∃ qq, k / 8 = qq := ⟨_, rfl⟩
        obtain ⟨rr, hrr⟩ : ∃ rr, k % 8 = rr := ⟨_, rfl⟩
        have hr8 : rr < 8 := by omega
        have hq5 : qq < 512 := by omega
        have hdiv : (k : Int).tdiv 8 = (qq : Int) := by rw [Int.tdiv_eq_ediv_of_nonneg (by omega)]; omega
        have hmod : (k : Int).tmod 8 = (rr : Int) := by rw [Int.tmod_eq_emod_of_nonneg (by omega)]; omega
        have hdiv2 : (k : Int) / 8 = (qq : Int) := by omega
        have hmod2 : (k : Int) % 8 = (rr : Int) := by omega
        have hx8 : 0 ≤ (slL s).getD qq 0 ∧ (slL s).getD qq 0 ≤ 255 := by
          rw [List.getD_eq_getElem?_getD, List.getElem?_eq_getElem (by rw [HLN.out]; exact hq5)]
          exact hby _ (List.getElem_mem _)
        have HTU : Hid (turnB (slL s) k = (slL s).set qq ((((slL s).getD qq 0).toNat ^^^ 2 ^ rr : Nat) : Int)) := hide (by unfold turnB; rw [hqq, hrr]; rfl)
        have hy : bits .xor .u8 ((slL s).getD qq 0) ((2 : Int) ^ rr % 256) = ((((slL s).getD qq 0).toNat ^^^ 2 ^ rr : Nat) : Int) := by
          have hp : (2 : Nat) ^ rr < 2 ^ 8 := Nat.pow_lt_pow_right (by omega) hr8
          have e : ((2 : Int) ^ rr % 256) = ((2 ^ rr : Nat) : Int) := by
            have : (2 : Int) ^ rr = ((2 ^ rr : Nat) : Int) := by simp
            rw [this]
            generalize (2 : Nat) ^ rr = pw at hp
            omega
          rw [e, u8_xor _ _ hx8.1 (by omega) (by omega) (by omega), Int.toNat_natCast]
        have hyb : 0 ≤ ((((slL s).getD qq 0).toNat ^^^ 2 ^ rr : Nat) : Int) ∧ ((((slL s).getD qq 0).toNat ^^^ 2 ^ rr : Nat) : Int) ≤ 255 := by
          have h1 : (((slL s).getD qq 0).toNat) < 2 ^ 8 := by omega
          have h2 : 2 ^ rr < 2 ^ 8 := Nat.pow_lt_pow_right (by omega) hr8
          have h3 := Nat.xor_lt_two_pow h1 h2
          generalize (((slL s).getD qq 0).toNat ^^^ 2 ^ rr) = zz at h3
          omega
        have HO8 : Hid (∀ W B u, Own8 W B u (slL s) → ∃ g c, u = .slice (some ⟨g, 0, none⟩) 512 c ∧ (512 : Nat) ≤ c ∧ c ≤ 9223372036854775807 ∧ B ≤ g ∧ W.cell? ⟨g, qq, none⟩ = some (.int .u8 ((slL s).getD qq 0)) ∧ W.frozen? ⟨g, qq, none⟩ = false ∧ IsB (W.setCell ⟨g, qq, none⟩ (.int .u8 ((((slL s).getD qq 0).toNat ^^^ 2 ^ rr : Nat) : Int))) (.slice (some ⟨g, 0, none⟩) 512 c) (turnB (slL s) k)) := hide (fun W B u ho => by
          obtain ⟨g, c, rfl, h1, h2, h3, h4, h5⟩ := own8_headS ho (by rw [HLN.out]; decide)
          rw [HLN.out] at h1 h4 h5 ⊢
          obtain ⟨h6, h7⟩ := h4 qq hq5
          have h8 := h5 qq _ hq5 hyb.1 hyb.2
          rw [← HTU.out] at h8
          exact ⟨g, c, rfl, h1, h2, h3, h6, h7, h8.isB⟩)
        have hlen0 : z105.length = (slV .nul).length := by rw [slV_len SL.nul_ok]; rfl
        have hinf0 := infoSof SL.nul_ok
        have hone0 := slV_one SL.nul
        obtain ⟨yy, hyy⟩ : ∃ yy : Int, yy = ((((slL s).getD qq 0).toNat ^^^ 2 ^ rr : Nat) : Int) := ⟨_, rfl⟩
        rw [← hyy] at hy HO8
        generalize (slL s).getD qq 0 = xx at *
        obtain ⟨pp, hpp⟩ : ∃ pp : Int, pp = (2 : Int) ^ rr % 256 := ⟨_, rfl⟩
        rw [← hpp] at hy
        have HPP := hide hpp
        generalize slV s = cs1 at *
        generalize slV SL.nul = cs0 at *
        generalize turnB (slL s) k = tb at *
        generalize slL s = bb at *
        have HK := hide hk
        clear hs hm ht h0 h1 hby hqq hrr hyb HTU hyy HST hpp hk
        go_enter Tryd.func8, Tryd.ntmps8
        go_wp2_with (first
          | (refine wpList_boxJ rfl 27 (.tmp 0) rfl rfl ?_; intro w1 hA1 hb1 hs1
             have hrg := hA1.rangeJ
             have HA1 := hide hA1
             have HB1 := hide hb1
             clear hA1 hb1 hs1)
          | (refine wpList_loadJ rfl 27 (.tmp 2) rfl _ 0 rfl cs1 _ hrg Tryd.underlying27 rfl hinf ?_)
          | fail)
        refine (unhide HMY _).mono ?_
        rintro e w2 ⟨rfl, hb2⟩
        have HB2 := hide (below_then HB1.out hb2)
        clear hrg HMY
        have hrg2 := (HA1.out.below hb2).rangeJ
        clear hb2 HA1
        go_wp2_with (first
          | (refine wpList_loadJ rfl 27 (.tmp 2) rfl _ 0 rfl cs1 _ hrg2 Tryd.underlying27 rfl hinf ?_)
          | fail)
        refine (unhide HEN _ HB2.out).mono ?_
        rintro e w3 ⟨u, rfl, ho3, hb3⟩
        have HB3 := hide (below_then HB2.out hb3)
        obtain ⟨g, c, rfl, hc0, hc1, hgB, hcl, hfr, hIs⟩ := unhide HO8 w3.drew _ _ (ho3.below (Below.refl w3.heap.size w3).drew)
        have HGB : Hid (w.heap.size ≤ g) := hide (Nat.le_trans HB2.out.size hgB)
        have HIS := hide hIs
        clear ho3 hb3 hgB hIs HEN HO8 hrg2
        go_wp2_with fail
        have hpw : IntKind.u8.wrap ((2 : Int) ^ rr) = pp := by rw [HPP.out]; rw [IntKind.wrap_u8]
        have hwq : IntKind.i64.wrap (qq : Int) = (qq : Int) := IntWalk.i64_in _ (by omega)
        have hqI : (qq : Int) < 512 := by omega
        have HD : Hid (w3.drew.cell? ⟨g, qq, none⟩ = some (.int .u8 xx) ∧ w3.drew.frozen? ⟨g, qq, none⟩ = false) := hide ⟨hcl, hfr⟩
        refine wp_region_held_drew (S := fun _ => True) (by kernel_rfl) (trivial) (fun hHeld => ?_)
        refine wpAnyH_take (i := 0) (v := .slice (some ⟨g, 0, none⟩) 512 c) rfl (by kernel_rfl) (by kernel_rfl) (by kernel_rfl) (fun _ _ _ h => h) (Or.inl ⟨by rfl, fun w hSw => by go_simp⟩) (by assumption) ?_
        simp only [List.getElem_toArray, List.getElem_cons_zero, Act.put, List.setIfInBounds_toArray, List.set_cons_zero, List.set_cons_succ]
        refine wpAnyH_take (i := 1) (v := .int .i64 (k : Int)) rfl (by kernel_rfl) (by kernel_rfl) (by kernel_rfl) (fun _ _ _ h => h) (Or.inl ⟨by rfl, fun w hSw => by go_simp⟩) (by assumption) ?_
        simp only [List.getElem_toArray, List.getElem_cons_succ, List.getElem_cons_zero, Act.put, List.setIfInBounds_toArray, List.set_cons_zero, List.set_cons_succ]
        refine wpAnyH_take (i := 2) (v := .int .i64 (qq : Int)) rfl (by kernel_rfl) (by kernel_rfl) (by kernel_rfl) (fun _ _ _ h => h) (Or.inl ⟨by rfl, fun w hSw => by go_simp⟩) (by assumption) ?_
        simp only [List.getElem_toArray, List.getElem_cons_succ, List.getElem_cons_zero, Act.put, List.setIfInBounds_toArray, List.set_cons_zero, List.set_cons_succ]
        refine wpAnyH_take (i := 3) (v := .slice (some ⟨g, 0, none⟩) 512 c) rfl (by kernel_rfl) (by kernel_rfl) (by kernel_rfl) (fun _ _ _ h => h) (Or.inl ⟨by rfl, fun w hSw => by go_simp⟩) (by assumption) ?_
        simp only [List.getElem_toArray, List.getElem_cons_succ, List.getElem_cons_zero, Act.put, List.setIfInBounds_toArray, List.set_cons_zero, List.set_cons_succ]
        refine wpAnyH_take (i := 4) (v := .int .i64 (k : Int)) rfl (by kernel_rfl) (by kernel_rfl) (by kernel_rfl) (fun _ _ _ h => h) (Or.inl ⟨by rfl, fun w hSw => by go_simp⟩) (by assumption) ?_
        simp only [List.getElem_toArray, List.getElem_cons_succ, List.getElem_cons_zero, Act.put, List.setIfInBounds_toArray, List.set_cons_zero, List.set_cons_succ]
        refine wpAnyH_take (i := 5) (v := .int .i64 (qq : Int)) rfl (by kernel_rfl) (by kernel_rfl) (by kernel_rfl) (fun _ _ _ h => h) (Or.inl ⟨by rfl, fun w hSw => by go_simp⟩) (by assumption) ?_
        simp only [List.getElem_toArray, List.getElem_cons_succ, List.getElem_cons_zero, Act.put, List.setIfInBounds_toArray, List.set_cons_zero, List.set_cons_succ]
        refine wpAnyH_take (i := 6) (v := .pointer (some ⟨g, qq, none⟩)) rfl (by kernel_rfl) (by kernel_rfl) (by kernel_rfl) (fun _ _ _ h => h) (Or.inl ⟨by rfl, fun w hSw => by go_simp⟩) (by assumption) ?_
        simp only [List.getElem_toArray, List.getElem_cons_succ, List.getElem_cons_zero, Act.put, List.setIfInBounds_toArray, List.set_cons_zero, List.set_cons_succ]
        refine wpAnyH_take (i := 8) (v := .int .i64 (k : Int)) rfl (by kernel_rfl) (by kernel_rfl) (by kernel_rfl) (fun _ _ _ h => h) (Or.inl ⟨by rfl, fun w hSw => by go_simp⟩) (by assumption) ?_
        simp only [List.getElem_toArray, List.getElem_cons_succ, List.getElem_cons_zero, Act.put, List.setIfInBounds_toArray, List.set_cons_zero, List.set_cons_succ]
        refine wpAnyH_take (i := 9) (v := .int .i64 (rr : Int)) rfl (by kernel_rfl) (by kernel_rfl) (by kernel_rfl) (fun _ _ _ h => h) (Or.inl ⟨by rfl, fun w hSw => by go_simp⟩) (by assumption) ?_
        simp only [List.getElem_toArray, List.getElem_cons_succ, List.getElem_cons_zero, Act.put, List.setIfInBounds_toArray, List.set_cons_zero, List.set_cons_succ]
        refine wpAnyH_take (i := 10) (v := .int .u8 pp) rfl (by kernel_rfl) (by kernel_rfl) (by kernel_rfl) (fun _ _ _ h => h) (Or.inl ⟨by rfl, fun w hSw => by go_simp⟩) (by assumption) ?_
        simp only [List.getElem_toArray, List.getElem_cons_succ, List.getElem_cons_zero, Act.put, List.setIfInBounds_toArray, List.set_cons_zero, List.set_cons_succ]
        refine wpAnyH_ready (rs := [7]) (by kernel_rfl) (by simp) (AllReadyH.cons rfl (fun K hK => ?_) AllReadyH.nil)
        refine step_load1 (by rfl) 5 (.tmp 39) rfl rfl (load8S HD.out.1) ?_
        refine hK.out _ _ (trivial) (fun hJ0 => ?_)
        clear hK K
        simp only [List.getElem_toArray, List.getElem_cons_succ, List.getElem_cons_zero, Act.put, List.setIfInBounds_toArray, List.set_cons_zero, List.set_cons_succ]
        refine wpAnyH_take (i := 11) (v := .int .u8 yy) rfl (by kernel_rfl) (by kernel_rfl) (by kernel_rfl) (fun _ _ _ h => h) (Or.inl ⟨by rfl, fun w hSw => by go_simp⟩) (by assumption) ?_
        simp only [List.getElem_toArray, List.getElem_cons_succ, List.getElem_cons_zero, Act.put, List.setIfInBounds_toArray, List.set_cons_zero, List.set_cons_succ]
        refine wpAnyH_take (i := 12) (v := .pointer (some ⟨g, qq, none⟩)) rfl (by kernel_rfl) (by kernel_rfl) (by kernel_rfl) (fun _ _ _ h => h) (Or.inl ⟨by rfl, fun w hSw => by go_simp⟩) (by assumption) ?_
        simp only [List.getElem_toArray, List.getElem_cons_succ, List.getElem_cons_zero, Act.put, List.setIfInBounds_toArray, List.set_cons_zero, List.set_cons_succ]
        refine wpAnyH_ready (rs := [13]) (by kernel_rfl) (by simp) (AllReadyH.cons rfl (fun K hK => ?_) AllReadyH.nil)
        refine step_store1 (by rfl) 5 (.tmp 45) (.tmp 44) rfl rfl rfl (store8S HD.out.1 HD.out.2) ?_
        refine hK.out _ _ (trivial) (fun hJ1 => ?_)
        clear hK K
        simp only [List.getElem_toArray, List.getElem_cons_succ, List.getElem_cons_zero, Act.put]
        refine wpAnyH_done (by kernel_rfl) ?_ _
        have HB9 : Hid (Below w.heap.size w (w3.drew.setCell ⟨g, qq, none⟩ (.int .u8 yy))) := hide (HB3.out.drew.setCell HGB.out _)
        have HDW : Hid (IsB (w3.drew.setCell ⟨g, qq, none⟩ (.int .u8 yy)) (.slice (some ⟨g, 0, none⟩) 512 c) tb) := hide HIS.out
        generalize w3.drew.setCell ⟨g, qq, none⟩ (.int .u8 yy) = w9 at *
        go_wp2_with fail
        refine (unhide HDC _ _ HB9.out HDW.out).mono ?_
        rintro e w10 ⟨rfl, hb10⟩
        have HX : Hid (∀ w8, (w10.alloc (.cells z105.toArray 27)).grownBy w8 (some w10.heap.size) → Below w.heap.size w w8) := hide (fun w8 hg8 => by
          have hba := jalloc_below w10 (.cells z105.toArray 27)
          exact below_then (below_then HB9.out hb10) (jbelow_grown hba hg8 hba.size (Nat.le_refl _)))
        clear hb10 HDC hcl hfr
        go_wp2_with (first
          | (refine wpList_allocJ rfl 27 rfl infoSlo ?_)
          | (refine wpList_storeJ rfl (.tmp 7) (.tmp 49) 27 rfl rfl rfl (Arr.new w10 z105 27) hinf0 hlen0 hone0 ?_; intro w8 hA8 hg8
             have HB8 := hide (unhide HX w8 hg8)
             clear hA8 hg8 HX)
          | fail)
        go_ret
        exact ⟨rfl, HB8.out⟩
end Go.Proofs.YtbgknbjpbobebaaDoor
