/- The document's ref and Decode. -/
import Derived.Test.YtbgknbjpbobebaaDoorKO
namespace Go.Proofs.YtbgknbjpbobebaaDoor
open Go.RowKit Go.Maps

section
variable {ops : Array Oper} {rest : List Oper} {o : Oper} {a : Act} {Q : Exit → Act → World → Prop} {w : World}
theorem wpList_bld3S (hgd : o.guard = none) (t : TypeId) (x y z : Operand) (ho : o.op = .build t #[(0, x), (1, y), (2, z)]) {vx vy vz u : Value} (hx : a.eval x = vx) (hy : a.eval y = vy) (hz : a.eval z = vz) (hrun : ∀ W, (Instr.build t #[(0, vx), (1, vy), (2, vz)]).run Tryd.prog W = .ok u W)
    (hk : wpList Tryd.prog ops Q rest (a.put o.dst u) w) : wpList Tryd.prog ops Q (o :: rest) a w := by
  refine wpList_plain hgd fun K hK => ?_
  unfold Oper.wp execOp
  simp only [ho, List.map_toArray, List.map_cons, List.map_nil, hx, hy, hz, Sem.run_bind, hrun w, Result.andThen_ok, Sem.run_pure]
  exact hK _ _ hk
theorem wpList_bld8S (hgd : o.guard = none) (t : TypeId) (x0 x1 x2 x3 x4 x5 x6 x7 : Operand) (ho : o.op = .build t #[(0, x0), (1, x1), (2, x2), (3, x3), (4, x4), (5, x5), (6, x6), (7, x7)]) {v0 v1 v2 v3 v4 v5 v6 v7 v : Value} (h0 : a.eval x0 = v0) (h1 : a.eval x1 = v1) (h2 : a.eval x2 = v2) (h3 : a.eval x3 = v3) (h4 : a.eval x4 = v4) (h5 : a.eval x5 = v5) (h6 : a.eval x6 = v6) (h7 : a.eval x7 = v7) (hrun : ∀ W, (Instr.build t #[(0, v0), (1, v1), (2, v2), (3, v3), (4, v4), (5, v5), (6, v6), (7, v7)]).run Tryd.prog W = .ok v W)
    (hk : wpList Tryd.prog ops Q rest (a.put o.dst v) w) : wpList Tryd.prog ops Q (o :: rest) a w := by
  refine wpList_plain hgd fun K hK => ?_
  unfold Oper.wp execOp
  simp only [ho, List.map_toArray, List.map_cons, List.map_nil, h0, h1, h2, h3, h4, h5, h6, h7, Sem.run_bind, hrun w, Result.andThen_ok, Sem.run_pure]
  exact hK _ _ hk
end
theorem rread4 {w : World} {v : Value} {b : List Int} (h : IsB w v b) {k : Nat} (hs : k + 4 ≤ b.length) : Calls Tryd.prog 64 #[v, .int .i64 (k : Int), .int .i64 4] w fun e w' => e = .returned (.int .i64 (w4 b k)) ∧ w' = w := by
  have := rread_calls18 (k := k) (n := 4) h (by decide) (by decide) hs
  rw [swrap4 h.mem] at this
  exact this
set_option maxRecDepth 100000 in
set_option maxHeartbeats 2000000 in
theorem rref_calls18 {w : World} {v : Value} {b : List Int} (h : IsB w v b) {k : Nat} (hs : k + 40 ≤ b.length) (hb : b.length ≤ 1000) :
    Calls Tryd.prog 66 #[v, .int .i64 (k : Int)] w fun e w' => e = .returned (.agg (jfV (sfK b k)).toArray) ∧ Below w.heap.size w w' := by
  have hok := sfK_ok (show By8 b from h.mem) hs
  have HKY : Hid (∀ W, Below w.heap.size w W → Calls Tryd.prog 65 #[v, .int .i64 (k : Int)] W fun e w' => e = .returned (.agg ((sfK b k).h.map (Value.int .u8)).toArray) ∧ Below W.heap.size W w') := hide (fun W hW => rkey_calls (h.below hW) (by omega) hb)
  have HR1 : Hid (∀ W, Below w.heap.size w W → Calls Tryd.prog 64 #[v, .int .i64 ((k + 32 : Nat) : Int), .int .i64 4] W fun e w' => e = .returned (.int .i64 (sfK b k).f) ∧ w' = W) := hide (fun W hW => rread4 (h.below hW) (by omega))
  have HR2 : Hid (∀ W, Below w.heap.size w W → Calls Tryd.prog 64 #[v, .int .i64 ((k + 36 : Nat) : Int), .int .i64 4] W fun e w' => e = .returned (.int .i64 (sfK b k).l) ∧ w' = W) := hide (fun W hW => rread4 (h.below hW) (by omega))
  obtain ⟨k1, hk1⟩ : ∃ k1 : Nat, k1 = k + 32 := ⟨_, rfl⟩
  obtain ⟨k2, hk2⟩ : ∃ k2 : Nat, k2 = k + 36 := ⟨_, rfl⟩
  rw [← hk1] at HR1
  rw [← hk2] at HR2
  have e1 : (k : Int) + 32 = (k1 : Int) := by omega
  have e2 : (k : Int) + 36 = (k2 : Int) := by omega
  have e1w : IntKind.i64.wrap (k1 : Int) = (k1 : Int) := IntWalk.i64_in _ (by omega)
  have e2w : IntKind.i64.wrap (k2 : Int) = (k2 : Int) := IntWalk.i64_in _ (by omega)
  have HBL : Hid (∀ W, (Instr.build 25 #[(0, .agg ((sfK b k).h.map (Value.int .u8)).toArray), (1, .int .i64 (sfK b k).f), (2, .int .i64 (sfK b k).l)]).run Tryd.prog W = .ok (.agg (jfV (sfK b k)).toArray) W) := hide (buildRf hok.len (sfK b k).f (sfK b k).l)
  have hinf := infoJof hok
  have hlen : z34J.length = (jfV (sfK b k)).length := by rw [jfV_len hok]; rfl
  have hone := jfV_one (sfK b k)
  obtain ⟨va, vn, vc, rfl⟩ := h.shape
  have hA0 := Arr.new w z34J 25
  have hb0 := jalloc_below w (.cells z34J.toArray 25)
  have HA0 := hide hA0
  have HB0 := hide hb0
  generalize jfV (sfK b k) = rc at *
  generalize (sfK b k).h.map (Value.int .u8) = hh at *
  generalize (sfK b k).f = f at *
  generalize (sfK b k).l = l at *
  clear h hok hs hb hk1 hk2 hA0 hb0
  go_enter Tryd.func66, Tryd.ntmps66
  go_wp2_with (first
    | (refine wpList_allocJ rfl 25 rfl infoJ ?_)
    | fail)
  refine (unhide HKY _ HB0.out).mono ?_
  rintro e w1 ⟨rfl, hb1⟩
  have HA1 := hide (HA0.out.below hb1)
  have HB1 := hide (below_then HB0.out hb1)
  clear hb1 HA0 HKY
  go_wp2_with fail
  refine (unhide HR1 _ HB1.out).mono ?_
  rintro e wx ⟨rfl, hwx⟩
  obtain rfl := hwx.symm
  clear hwx
  go_wp2_with fail
  refine (unhide HR2 _ HB1.out).mono ?_
  rintro e wx ⟨rfl, hwx⟩
  obtain rfl := hwx.symm
  clear hwx
  go_wp2_with (first
    | (refine wpList_bld3S rfl 25 (.tmp 7) (.tmp 11) (.tmp 15) rfl (vx := .agg hh.toArray) (vy := .int .i64 f) (vz := .int .i64 l) rfl rfl rfl HBL.out ?_)
    | (refine wpList_storeJ rfl (.tmp 4) (.tmp 16) 25 rfl rfl (ds := rc) rfl HA1.out hinf hlen hone ?_; intro w9 hA9 hg9)
    | fail)
  have hA9' : Arr w9 w.heap.size 25 rc := hA9
  refine bodyPost_ret (results_rowJ rfl rfl hA9' Tryd.underlying25 rfl hinf) rfl ?_
  exact ⟨rfl, jbelow_grown HB1.out hg9 HB1.out.size (Nat.le_refl _)⟩
set_option maxRecDepth 100000 in
set_option maxHeartbeats 2000000 in
theorem rdec_shortS {w : World} {v : Value} {b : List Int} (h : IsB w v b) (hl : b.length ≠ 512) :
    Calls Tryd.prog 43 #[v] w fun e w' => e = .returned (.tuple #[.agg (slV .nul).toArray, .int .i64 180]) ∧ Below w.heap.size w w' := by
  obtain ⟨_, va, vc, rfl, hlc, hvm, _, _⟩ := id h
  have hne : ((b.length : Int) != 512) = true := by simpa using (by omega : ¬ (b.length : Int) = 512)
  generalize b.length = n at *
  have hlen : z105.length = (slV .nul).length := by rw [slV_len SL.nul_ok]; rfl
  have hinf := infoSof SL.nul_ok
  have hone := slV_one SL.nul
  have HB1 := hide (jalloc_below w (.cells z105.toArray 27))
  clear h hl
  go_enter Tryd.func43, Tryd.ntmps43
  go_wp2_with (first
    | (refine wpList_allocJ rfl 27 rfl infoSlo ?_)
    | (refine wpList_bldJ rfl 27 rfl bldS0 ?_)
    | (refine wpList_storeJ rfl (.tmp 2) (.tmp 10) 27 rfl rfl rfl (Arr.new w z105 27) hinf hlen hone ?_; intro w2 hA2 hg2))
  have HB2 := hide (jbelow_grown HB1.out hg2 HB1.out.size (Nat.le_refl _))
  have hA3 : Arr w2 w.heap.size 27 (slV .nul) := hA2
  refine bodyPost_ret (results_rowJ2 rfl rfl rfl hA3 Tryd.underlying27 rfl hinf) rfl ?_
  exact ⟨rfl, HB2.out⟩
set_option maxRecDepth 100000 in
set_option maxHeartbeats 4000000 in
theorem rdec_longS {w : World} {v : Value} {b : List Int} (h : IsB w v b) (hl : b.length = 512) :
    Calls Tryd.prog 43 #[v] w fun e w' => e = .returned (.tuple #[.agg (slV (decSR b)).toArray, .int .i64 (decSE b)]) ∧ Below w.heap.size w w' := by
  have hby : By8 b := h.mem
  have hok := nmS_ok hby hl
  have HBYB := hide hby
  have hb1 := jalloc_below w (.cells z105.toArray 27)
  have hA1 := Arr.new w z105 27
  obtain ⟨w1, hw1⟩ : ∃ w1, w1 = w.alloc (.cells z105.toArray 27) := ⟨_, rfl⟩
  rw [← hw1] at hb1 hA1
  have hbl : b.length ≤ 1000 := by omega
  have HD0 : Hid (∀ W, Below w.heap.size w W → Calls Tryd.prog 64 #[v, .int .i64 4, .int .i64 4] W fun e w' => e = .returned (.int .i64 (nmS b).sc) ∧ w' = W) := hide (fun W hW => rread4 (k := 4) (h.below hW) (by omega))
  have HD1 : Hid (∀ W, Below w.heap.size w W → Calls Tryd.prog 64 #[v, .int .i64 8, .int .i64 4] W fun e w' => e = .returned (.int .i64 (nmS b).j) ∧ w' = W) := hide (fun W hW => rread4 (k := 8) (h.below hW) (by omega))
  have HD2 : Hid (∀ W, Below w.heap.size w W → Calls Tryd.prog 64 #[v, .int .i64 12, .int .i64 8] W fun e w' => e = .returned (.int .i64 (nmS b).t) ∧ w' = W) := hide (fun W hW => rread_calls18 (k := 12) (n := 8) (h.below hW) (by decide) (by decide) (by omega))
  have HD3 : Hid (∀ W, Below w.heap.size w W → Calls Tryd.prog 64 #[v, .int .i64 20, .int .i64 8] W fun e w' => e = .returned (.int .i64 (nmS b).g) ∧ w' = W) := hide (fun W hW => rread_calls18 (k := 20) (n := 8) (h.below hW) (by decide) (by decide) (by omega))
  have HD4 : Hid (∀ W, Below w.heap.size w W → Calls Tryd.prog 64 #[v, .int .i64 28, .int .i64 8] W fun e w' => e = .returned (.int .i64 (nmS b).s) ∧ w' = W) := hide (fun W hW => rread_calls18 (k := 28) (n := 8) (h.below hW) (by decide) (by decide) (by omega))
  have HD5 : Hid (∀ W, Below w.heap.size w W → Calls Tryd.prog 65 #[v, .int .i64 36] W fun e w' => e = .returned (.agg ((nmS b).k.map (Value.int .u8)).toArray) ∧ Below W.heap.size W w') := hide (fun W hW => rkey_calls (k := 36) (h.below hW) (by omega) hbl)
  have HD6 : Hid (∀ W, Below w.heap.size w W → Calls Tryd.prog 66 #[v, .int .i64 68] W fun e w' => e = .returned (.agg (jfV (nmS b).r).toArray) ∧ Below W.heap.size W w') := hide (fun W hW => rref_calls18 (k := 68) (h.below hW) (by omega) hbl)
  have HD7 : Hid (∀ W, Below w.heap.size w W → Calls Tryd.prog 66 #[v, .int .i64 108] W fun e w' => e = .returned (.agg (jfV (nmS b).m).toArray) ∧ Below W.heap.size W w') := hide (fun W hW => rref_calls18 (k := 108) (h.below hW) (by omega) hbl)
  have HBS := hide (buildSl hok)
  have HIS : Hid (∀ W, Below w.heap.size w W → IsB W v b) := hide (fun W hW => h.below hW)
  obtain ⟨_, va, vc, rfl, hlc, hvm, _, _⟩ := id h
  have hlen0 : z105.length = (slV .nul).length := by rw [slV_len SL.nul_ok]; rfl
  have hinf0 := infoSof SL.nul_ok
  have hone0 := slV_one SL.nul
  have hinf := infoSof hok
  have hlen : z105.length = (slV (nmS b)).length := by rw [slV_len hok]; rfl
  have hon := slV_one (nmS b)
  have HB1 := hide hb1
  have HA1 := hide hA1
  have HW1 := hide hw1
  obtain ⟨g2, hg2⟩ : ∃ g2, g2 = w.heap.size := ⟨_, rfl⟩
  have HG2 := hide hg2
  rw [← hg2] at HA1
  have HENY : Hid ((nmS b).May → ∀ W, Calls Tryd.prog 10 #[.agg (slV (nmS b)).toArray] W fun e w' => ∃ u, e = .returned (.tuple #[u, .int .i64 0]) ∧ Own8 w' W.heap.size u (slL (nmS b)) ∧ Below W.heap.size W w') := hide (fun hm W => renc_good hok hm)
  have HENN : Hid (¬ (nmS b).May → ∀ W, Calls Tryd.prog 10 #[.agg (slV (nmS b)).toArray] W fun e w' => e = .returned (.tuple #[.slice none 0 0, .int .i64 180]) ∧ Below W.heap.size W w') := hide (fun hm W => renc_no hok hm)
  have HLY : Hid (By8 (slL (nmS b))) := hide (slL_by hok)
  have HDY : Hid ((nmS b).May → slL (nmS b) = b → slV (decSR b) = slV (nmS b) ∧ decSE b = 0) := hide (fun h1 h2 => by obtain ⟨q1, q2⟩ := decSR_some (decS_yes hl h1 h2); rw [q1, q2]; exact ⟨rfl, rfl⟩)
  have HDN : Hid (¬ ((nmS b).May ∧ slL (nmS b) = b) → slV (decSR b) = slV .nul ∧ decSE b = 180) := hide (fun h1 => by obtain ⟨q1, q2⟩ := decSR_none (decS_no fun hc => h1 hc.2); rw [q1, q2]; exact ⟨rfl, rfl⟩)
  have HBN := hide bldS0
  generalize (nmS b).May = MAY at *
  generalize slL (nmS b) = LL at *
  generalize slV (nmS b) = cs1 at *
  generalize slV SL.nul = cs0 at *
  generalize hdr : slV (decSR b) = csR at *
  generalize hde : decSE b = eR at *
  generalize jfV (nmS b).r = jr at *
  generalize jfV (nmS b).m = jm at *
  generalize (nmS b).k.map (Value.int .u8) = kk at *
  generalize (nmS b).sc = x0 at *
  generalize (nmS b).j = x1 at *
  generalize (nmS b).t = x2 at *
  generalize (nmS b).g = x3 at *
  generalize (nmS b).s = x4 at *
  rw [hl] at *
  clear h hby hok hb1 hA1 hw1 hg2 hbl hdr hde hl
  by_cases hm : MAY
  · have HEN := hide (unhide HENY hm)
    by_cases heq : LL = b
    · have HQ1 := hide (unhide HDY hm heq)
      have he : ((mkS LL).toList == (mkS b).toList) = true := by
        have e : ((mkS LL).toList == (mkS b).toList) = decide (LL = b) := by
          rw [Bool.eq_iff_iff, beq_iff_eq, decide_eq_true_iff, ByteArray.toList_eq, ByteArray.toList_eq]
          exact ⟨fun h => mkS_inj HLY.out HBYB.out (congrArg ByteArray.mk (Array.toList_inj.1 h)), fun h => by rw [h]⟩
        rw [e, decide_eq_true heq]
      clear hm heq HDY HDN HENY HENN HLY HBYB
      go_enter Tryd.func43, Tryd.ntmps43
      go_wp2_with (first
        | (refine wpList_allocJ rfl 27 rfl infoSlo ?_; rw [← HW1.out, ← HG2.out])
        | fail)
      refine (unhide HD0 _ HB1.out).mono ?_
      rintro e wx ⟨rfl, hwx⟩
      obtain rfl := hwx.symm
      clear hwx HD0
      go_wp2_with fail
      refine (unhide HD1 _ HB1.out).mono ?_
      rintro e wx ⟨rfl, hwx⟩
      obtain rfl := hwx.symm
      clear hwx HD1
      go_wp2_with fail
      refine (unhide HD2 _ HB1.out).mono ?_
      rintro e wx ⟨rfl, hwx⟩
      obtain rfl := hwx.symm
      clear hwx HD2
      go_wp2_with fail
      refine (unhide HD3 _ HB1.out).mono ?_
      rintro e wx ⟨rfl, hwx⟩
      obtain rfl := hwx.symm
      clear hwx HD3
      go_wp2_with fail
      refine (unhide HD4 _ HB1.out).mono ?_
      rintro e wx ⟨rfl, hwx⟩
      obtain rfl := hwx.symm
      clear hwx HD4
      go_wp2_with fail
      refine (unhide HD5 _ HB1.out).mono ?_
      rintro e wa ⟨rfl, hba1⟩
      have HBa := hide (below_then HB1.out hba1)
      have HAa := hide (HA1.out.below hba1)
      clear hba1 HA1 HD5
      go_wp2_with fail
      refine (unhide HD6 _ HBa.out).mono ?_
      rintro e wb ⟨rfl, hbb1⟩
      have HBb := hide (below_then HBa.out hbb1)
      have HAb := hide (HAa.out.below hbb1)
      clear hbb1 HAa HD6
      go_wp2_with fail
      refine (unhide HD7 _ HBb.out).mono ?_
      rintro e w2 ⟨rfl, hb2⟩
      have hA2 := HAb.out.below hb2
      have hbw2 := below_then HBb.out hb2
      have hba := jalloc_below w2 (.cells z105.toArray 27)
      have HX : Hid (∀ w3, (w2.alloc (.cells z105.toArray 27)).grownBy w3 (some w2.heap.size) → Arr w3 g2 27 z105 ∧ Below w.heap.size w w3) := hide (fun w3 hg3 => by
        have hlt := hA2.lt
        exact ⟨arr_grown (hA2.below hba) hg3 (by simp; omega), jbelow_grown (below_then hbw2 hba) hg3 (Nat.le_trans hbw2.size hba.size) hbw2.size⟩)
      clear HD7 hb2 hA2 hba hbw2 HAb
      go_wp2_with (first
        | (refine wpList_bld8S rfl 27 (.tmp 12) (.tmp 14) (.tmp 16) (.tmp 18) (.tmp 20) (.tmp 22) (.tmp 24) (.tmp 26) rfl (v0 := .int .i64 x0) (v1 := .int .i64 x1) (v2 := .int .i64 x2) (v3 := .int .i64 x3) (v4 := .int .i64 x4) (v5 := .agg kk.toArray) (v6 := .agg jr.toArray) (v7 := .agg jm.toArray) rfl rfl rfl rfl rfl rfl rfl rfl HBS.out ?_)
        | (refine wpList_allocJ rfl 27 rfl infoSlo ?_)
        | (refine wpList_storeJ rfl (.tmp 4) (.tmp 27) 27 rfl rfl rfl (Arr.new w2 z105 27) hinf hlen hon ?_; intro w3 hA3 hg3
           obtain ⟨hA23, hb3⟩ := unhide HX w3 hg3
           have hrng := hA3.rangeJ
           have HA3 := hide hA3
           have HA23 := hide hA23
           have HB3 := hide hb3
           clear hA3 hg3 hA23 hb3)
        | (refine wpList_loadJ rfl 27 (.tmp 4) rfl _ 0 rfl cs1 _ hrng Tryd.underlying27 rfl hinf ?_)
        | fail)
      refine (unhide HEN _).mono ?_
      rintro e w4 ⟨fv, rfl, ho4, hb4⟩
      have hA4 := HA3.out.below hb4
      have hb4w := below_then HB3.out hb4
      have c2 := conv_isB (unhide HIS w4 hb4w)
      have c1 := conv_isB ho4.isB
      obtain ⟨fa, fn, fc, rfl⟩ := ho4.shape
      have hrng4 := hA4.rangeJ
      have HQ : Hid (∀ w5, w4.grownBy w5 (some g2) → Below w.heap.size w w5) := hide (fun w5 hg5 => jbelow_grown hb4w hg5 hb4w.size (by rw [HG2.out]; exact Nat.le_refl _))
      have HA24 := hide (HA23.out.below hb4)
      clear HEN ho4 hb4 hA4 hb4w HA3 HA23 HB3 hrng HIS
      generalize mkS LL = ms1 at *
      generalize mkS b = ms2 at *
      go_wp2_with (first
        | (refine wpList_loadJ rfl 27 (.tmp 4) rfl _ 0 rfl cs1 _ hrng4 Tryd.underlying27 rfl hinf ?_)
        | (refine wpList_storeJ rfl (.tmp 2) (.tmp 43) 27 rfl rfl rfl HA24.out hinf hlen hon ?_; intro w6 hA6 hg6)
        | fail)
      have hb6 := unhide HQ w6 hg6
      have hA7 : Arr w6 g2 27 cs1 := hA6
      refine bodyPost_ret (results_rowJ2 rfl rfl rfl hA7 Tryd.underlying27 rfl hinf) rfl ?_
      rw [HQ1.out.1, HQ1.out.2]
      exact ⟨rfl, hb6⟩
    · have HQ1 := hide (unhide HDN (fun hc => heq hc.2))
      have he : ((mkS LL).toList == (mkS b).toList) = false := by
        have e : ((mkS LL).toList == (mkS b).toList) = decide (LL = b) := by
          rw [Bool.eq_iff_iff, beq_iff_eq, decide_eq_true_iff, ByteArray.toList_eq, ByteArray.toList_eq]
          exact ⟨fun h => mkS_inj HLY.out HBYB.out (congrArg ByteArray.mk (Array.toList_inj.1 h)), fun h => by rw [h]⟩
        rw [e, decide_eq_false heq]
      clear hm heq HDY HDN HENY HENN HLY HBYB
      go_enter Tryd.func43, Tryd.ntmps43
      go_wp2_with (first
        | (refine wpList_allocJ rfl 27 rfl infoSlo ?_; rw [← HW1.out, ← HG2.out])
        | fail)
      refine (unhide HD0 _ HB1.out).mono ?_
      rintro e wx ⟨rfl, hwx⟩
      obtain rfl := hwx.symm
      clear hwx HD0
      go_wp2_with fail
      refine (unhide HD1 _ HB1.out).mono ?_
      rintro e wx ⟨rfl, hwx⟩
      obtain rfl := hwx.symm
      clear hwx HD1
      go_wp2_with fail
      refine (unhide HD2 _ HB1.out).mono ?_
      rintro e wx ⟨rfl, hwx⟩
      obtain rfl := hwx.symm
      clear hwx HD2
      go_wp2_with fail
      refine (unhide HD3 _ HB1.out).mono ?_
      rintro e wx ⟨rfl, hwx⟩
      obtain rfl := hwx.symm
      clear hwx HD3
      go_wp2_with fail
      refine (unhide HD4 _ HB1.out).mono ?_
      rintro e wx ⟨rfl, hwx⟩
      obtain rfl := hwx.symm
      clear hwx HD4
      go_wp2_with fail
      refine (unhide HD5 _ HB1.out).mono ?_
      rintro e wa ⟨rfl, hba1⟩
      have HBa := hide (below_then HB1.out hba1)
      have HAa := hide (HA1.out.below hba1)
      clear hba1 HA1 HD5
      go_wp2_with fail
      refine (unhide HD6 _ HBa.out).mono ?_
      rintro e wb ⟨rfl, hbb1⟩
      have HBb := hide (below_then HBa.out hbb1)
      have HAb := hide (HAa.out.below hbb1)
      clear hbb1 HAa HD6
      go_wp2_with fail
      refine (unhide HD7 _ HBb.out).mono ?_
      rintro e w2 ⟨rfl, hb2⟩
      have hA2 := HAb.out.below hb2
      have hbw2 := below_then HBb.out hb2
      have hba := jalloc_below w2 (.cells z105.toArray 27)
      have HX : Hid (∀ w3, (w2.alloc (.cells z105.toArray 27)).grownBy w3 (some w2.heap.size) → Arr w3 g2 27 z105 ∧ Below w.heap.size w w3) := hide (fun w3 hg3 => by
        have hlt := hA2.lt
        exact ⟨arr_grown (hA2.below hba) hg3 (by simp; omega), jbelow_grown (below_then hbw2 hba) hg3 (Nat.le_trans hbw2.size hba.size) hbw2.size⟩)
      clear HD7 hb2 hA2 hba hbw2 HAb
      go_wp2_with (first
        | (refine wpList_bld8S rfl 27 (.tmp 12) (.tmp 14) (.tmp 16) (.tmp 18) (.tmp 20) (.tmp 22) (.tmp 24) (.tmp 26) rfl (v0 := .int .i64 x0) (v1 := .int .i64 x1) (v2 := .int .i64 x2) (v3 := .int .i64 x3) (v4 := .int .i64 x4) (v5 := .agg kk.toArray) (v6 := .agg jr.toArray) (v7 := .agg jm.toArray) rfl rfl rfl rfl rfl rfl rfl rfl HBS.out ?_)
        | (refine wpList_allocJ rfl 27 rfl infoSlo ?_)
        | (refine wpList_storeJ rfl (.tmp 4) (.tmp 27) 27 rfl rfl rfl (Arr.new w2 z105 27) hinf hlen hon ?_; intro w3 hA3 hg3
           obtain ⟨hA23, hb3⟩ := unhide HX w3 hg3
           have hrng := hA3.rangeJ
           have HA3 := hide hA3
           have HA23 := hide hA23
           have HB3 := hide hb3
           clear hA3 hg3 hA23 hb3)
        | (refine wpList_loadJ rfl 27 (.tmp 4) rfl _ 0 rfl cs1 _ hrng Tryd.underlying27 rfl hinf ?_)
        | fail)
      refine (unhide HEN _).mono ?_
      rintro e w4 ⟨fv, rfl, ho4, hb4⟩
      have hA4 := HA3.out.below hb4
      have hb4w := below_then HB3.out hb4
      have c2 := conv_isB (unhide HIS w4 hb4w)
      have c1 := conv_isB ho4.isB
      obtain ⟨fa, fn, fc, rfl⟩ := ho4.shape
      have hrng4 := hA4.rangeJ
      have HQ : Hid (∀ w5, w4.grownBy w5 (some g2) → Below w.heap.size w w5) := hide (fun w5 hg5 => jbelow_grown hb4w hg5 hb4w.size (by rw [HG2.out]; exact Nat.le_refl _))
      have HA24 := hide (HA23.out.below hb4)
      clear HEN ho4 hb4 hA4 hb4w HA3 HA23 HB3 hrng HIS
      generalize mkS LL = ms1 at *
      generalize mkS b = ms2 at *
      go_wp2_with (first
        | (refine wpList_bldJ rfl 27 rfl HBN.out ?_)
        | (refine wpList_storeJ rfl (.tmp 2) (.tmp 42) 27 rfl rfl rfl HA24.out hinf0 hlen0 hone0 ?_; intro w6 hA6 hg6)
        | fail)
      have hb6 := unhide HQ w6 hg6
      have hA7 : Arr w6 g2 27 cs0 := hA6
      refine bodyPost_ret (results_rowJ2 rfl rfl rfl hA7 Tryd.underlying27 rfl hinf0) rfl ?_
      rw [HQ1.out.1, HQ1.out.2]
      exact ⟨rfl, hb6⟩
  · have HEN := hide (unhide HENN hm)
    have HQ1 := hide (unhide HDN (fun hc => hm hc.1))
    clear hm HDY HDN HENY HENN HLY HBYB
    go_enter Tryd.func43, Tryd.ntmps43
    go_wp2_with (first
      | (refine wpList_allocJ rfl 27 rfl infoSlo ?_; rw [← HW1.out, ← HG2.out])
      | fail)
    refine (unhide HD0 _ HB1.out).mono ?_
    rintro e wx ⟨rfl, hwx⟩
    obtain rfl := hwx.symm
    clear hwx HD0
    go_wp2_with fail
    refine (unhide HD1 _ HB1.out).mono ?_
    rintro e wx ⟨rfl, hwx⟩
    obtain rfl := hwx.symm
    clear hwx HD1
    go_wp2_with fail
    refine (unhide HD2 _ HB1.out).mono ?_
    rintro e wx ⟨rfl, hwx⟩
    obtain rfl := hwx.symm
    clear hwx HD2
    go_wp2_with fail
    refine (unhide HD3 _ HB1.out).mono ?_
    rintro e wx ⟨rfl, hwx⟩
    obtain rfl := hwx.symm
    clear hwx HD3
    go_wp2_with fail
    refine (unhide HD4 _ HB1.out).mono ?_
    rintro e wx ⟨rfl, hwx⟩
    obtain rfl := hwx.symm
    clear hwx HD4
    go_wp2_with fail
    refine (unhide HD5 _ HB1.out).mono ?_
    rintro e wa ⟨rfl, hba1⟩
    have HBa := hide (below_then HB1.out hba1)
    have HAa := hide (HA1.out.below hba1)
    clear hba1 HA1 HD5
    go_wp2_with fail
    refine (unhide HD6 _ HBa.out).mono ?_
    rintro e wb ⟨rfl, hbb1⟩
    have HBb := hide (below_then HBa.out hbb1)
    have HAb := hide (HAa.out.below hbb1)
    clear hbb1 HAa HD6
    go_wp2_with fail
    refine (unhide HD7 _ HBb.out).mono ?_
    rintro e w2 ⟨rfl, hb2⟩
    have hA2 := HAb.out.below hb2
    have hbw2 := below_then HBb.out hb2
    have hba := jalloc_below w2 (.cells z105.toArray 27)
    have HX : Hid (∀ w3, (w2.alloc (.cells z105.toArray 27)).grownBy w3 (some w2.heap.size) → Arr w3 g2 27 z105 ∧ Below w.heap.size w w3) := hide (fun w3 hg3 => by
      have hlt := hA2.lt
      exact ⟨arr_grown (hA2.below hba) hg3 (by simp; omega), jbelow_grown (below_then hbw2 hba) hg3 (Nat.le_trans hbw2.size hba.size) hbw2.size⟩)
    clear HD7 hb2 hA2 hba hbw2 HAb
    go_wp2_with (first
      | (refine wpList_bld8S rfl 27 (.tmp 12) (.tmp 14) (.tmp 16) (.tmp 18) (.tmp 20) (.tmp 22) (.tmp 24) (.tmp 26) rfl (v0 := .int .i64 x0) (v1 := .int .i64 x1) (v2 := .int .i64 x2) (v3 := .int .i64 x3) (v4 := .int .i64 x4) (v5 := .agg kk.toArray) (v6 := .agg jr.toArray) (v7 := .agg jm.toArray) rfl rfl rfl rfl rfl rfl rfl rfl HBS.out ?_)
      | (refine wpList_allocJ rfl 27 rfl infoSlo ?_)
      | (refine wpList_storeJ rfl (.tmp 4) (.tmp 27) 27 rfl rfl rfl (Arr.new w2 z105 27) hinf hlen hon ?_; intro w3 hA3 hg3
         obtain ⟨hA23, hb3⟩ := unhide HX w3 hg3
         have hrng := hA3.rangeJ
         have HA3 := hide hA3
         have HA23 := hide hA23
         have HB3 := hide hb3
         clear hA3 hg3 hA23 hb3)
      | (refine wpList_loadJ rfl 27 (.tmp 4) rfl _ 0 rfl cs1 _ hrng Tryd.underlying27 rfl hinf ?_)
      | fail)
    refine (unhide HEN _).mono ?_
    rintro e w4 ⟨rfl, hb4⟩
    have hb4w := below_then HB3.out hb4
    have HQ : Hid (∀ w5, w4.grownBy w5 (some g2) → Below w.heap.size w w5) := hide (fun w5 hg5 => jbelow_grown hb4w hg5 hb4w.size (by rw [HG2.out]; exact Nat.le_refl _))
    have HA24 := hide (HA23.out.below hb4)
    clear HEN hb4 hb4w HA3 HA23 HB3 hrng HIS
    go_wp2_with (first
      | (refine wpList_bldJ rfl 27 rfl HBN.out ?_)
      | (refine wpList_storeJ rfl (.tmp 2) (.tmp 42) 27 rfl rfl rfl HA24.out hinf0 hlen0 hone0 ?_; intro w6 hA6 hg6)
      | fail)
    have hb6 := unhide HQ w6 hg6
    have hA7 : Arr w6 g2 27 cs0 := hA6
    refine bodyPost_ret (results_rowJ2 rfl rfl rfl hA7 Tryd.underlying27 rfl hinf0) rfl ?_
    rw [HQ1.out.1, HQ1.out.2]
    exact ⟨rfl, hb6⟩
/-- What Decode answers. -/
theorem rdecS_calls {w : World} {v : Value} {b : List Int} (h : IsB w v b) :
    Calls Tryd.prog 43 #[v] w fun e w' => e = .returned (.tuple #[.agg (slV (decSR b)).toArray, .int .i64 (decSE b)]) ∧ Below w.heap.size w w' := by
  by_cases hl : b.length = 512
  · exact rdec_longS h hl
  · obtain ⟨q1, q2⟩ := decSR_none (decS_short hl)
    rw [q1, q2]
    exact rdec_shortS h hl
end Go.Proofs.YtbgknbjpbobebaaDoor
