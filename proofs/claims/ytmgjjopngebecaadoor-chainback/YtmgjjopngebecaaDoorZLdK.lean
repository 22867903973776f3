/- ChainBack: the walk. -/
import Derived.Test.YtmgjjopngebecaaDoorZSK
import Derived.Test.YtmgjjopngebecaaDoorZRK
import Derived.Test.YtmgjjopngebecaaDoorZRL
import Derived.Deep.DeepCutAuto
namespace Go.Proofs.YtmgjjopngebecaaDoor
open Go.RowKit Go.Maps

section
variable {ops : Array Oper} {rest : List Oper} {o : Oper} {a : Act} {Q : Exit → Act → World → Prop} {w : World} {K : Act → World → Prop} {E : Prop}
/-- A struct or an array read behind a guard that holds. -/
theorem wpList_loadOn (hw : Region.wanted o (yielded ops a.tmps) = true) (ty : TypeId) (x : Operand) (ho : o.op = .load ty x) (b f : Nat) (hx : a.eval x = .pointer (some ⟨b, f, none⟩)) (cs : List Value) (d : TypeDesc) (hc : w.rangeAt b f cs)
    (hu : Tryd.prog.underlying ty = some d) (hd : d.isRow = true) (hi : (Tryd.prog.info? ty).map (·.size) = some cs.length) (h : wpList Tryd.prog ops Q rest (a.put o.dst (.agg cs.toArray)) w) : wpList Tryd.prog ops Q (o :: rest) a w :=
  wpList_on hw fun _ hK => wp_load_mid ty x ho b f hx cs d hc hu hd hi (hK _ _ h)
theorem wpList_bldOn (hw : Region.wanted o (yielded ops a.tmps) = true) (ho : o.op = .build 26 #[]) (hk : wpList Tryd.prog ops Q rest (a.put o.dst (.agg zRef.toArray)) w) : wpList Tryd.prog ops Q (o :: rest) a w :=
  wpList_on hw fun _ hK => by
    have hrun : ∀ W : World, (Instr.build 26 #[]).run Tryd.prog W = .ok (.agg zRef.toArray) W := fun W => by kernel_rfl
    unfold Oper.wp execOp
    simp only [ho, List.map_toArray, List.map_nil, Sem.run_bind, hrun w, Result.andThen_ok, Sem.run_pure]
    exact hK _ _ hk
end
theorem refz_eql (W : World) : (binOp .eql 26 (.agg zRef.toArray) (.agg zRef.toArray)).run Tryd.prog W = .ok (.bool true) W := by kernel_rfl
theorem ref_guard6 (op : BinOp) (x y : Operand) (xs ys : Array Value) (w : World) : (eqGuard op 26 x y (.agg xs) (.agg ys)).run Tryd.prog w = .ok () w := run_eqGuard_agg w op 26 x y xs ys (by kernel_rfl)
set_option maxRecDepth 100000 in
set_option maxHeartbeats 8000000 in
theorem back_walk [Inhabited SumTab] {w : World} {sn fn tn heap : Int} {ra ta ba : Option Addr} {rn rc tl tc bn bc : Nat} {raw : List (Int × List Int)} {tk : List Int} {bs : List Int} (hr : IsSpots w (.slice ra rn rc) raw) (htk : IsT w (.slice ta tl tc) tk) (hb : IsB w (.slice ba bn bc) bs) (hT : TT w) :
    Calls Tryd.prog 5 #[.agg #[.int .i64 sn, .slice ra rn rc, .int .i64 fn, .int .i64 tn, .slice ta tl tc], .slice ba bn bc, .int .i64 heap] w fun e w' => e = .returned (.bool true) ∧ Below w.heap.size w w' := by
  obtain ⟨n, hn⟩ : ∃ n : Nat, (wholeI sn 2 200).toNat = n := ⟨_, rfl⟩
  have hn2 : 2 ≤ n ∧ n ≤ 200 := by have := wholeI_in sn (show (2 : Int) ≤ 200 by omega); omega
  obtain ⟨IMS, hIMS⟩ : ∃ IMS, laidI n (List.replicate n zsec) (raw.take 400) = IMS := ⟨_, rfl⟩
  have HNL : Hid (IMS.length = n) := hide (by rw [← hIMS, laidI_len, List.length_replicate])
  obtain ⟨WS, hWS⟩ : ∃ WS, takenW 1 n (newW (n - 1)) (tk.take 400) = WS := ⟨_, rfl⟩
  obtain ⟨B, hB⟩ : ∃ B, w.heap.size = B := ⟨_, rfl⟩
  obtain ⟨w1, hw1⟩ : ∃ w1, w.alloc (.cells #[.int .i64 sn, .slice ra rn rc, .int .i64 fn, .int .i64 tn, .slice ta tl tc] 61) = w1 := ⟨_, rfl⟩
  have hA1 : Arr w1 B 61 [.int .i64 sn, .slice ra rn rc, .int .i64 fn, .int .i64 tn, .slice ta tl tc] := by rw [← hw1, ← hB]; exact Arr.new _ _ _
  have hb1 : Below w.heap.size w w1 := by rw [← hw1]; exact (Below.refl _ _).alloc (Nat.le_refl _) _
  have HRM := hide (room_calls (sn := sn) (fn := fn) (tn := tn) (hr.below hb1) (isT_belowL htk hb1) (fun W hW => (hT.below hb1).below hW))
  rw [hn, hIMS, hWS] at HRM
  obtain ⟨hn2a, hn2b⟩ := hn2
  have HB := hide hB
  have HW1 := hide hw1
  have HB1 := hide hb1
  have HT := hide hT
  have HBS := hide hb
  have c10 : w1.cell? ⟨B, 0, none⟩ = some (.int .i64 sn) := arr_cell hA1 rfl
  have c11 : w1.cell? ⟨B, 1, none⟩ = some (.slice ra rn rc) := arr_cell hA1 rfl
  have c12 : w1.cell? ⟨B, 2, none⟩ = some (.int .i64 fn) := arr_cell hA1 rfl
  have c13 : w1.cell? ⟨B, 3, none⟩ = some (.int .i64 tn) := arr_cell hA1 rfl
  have c14 : w1.cell? ⟨B, 4, none⟩ = some (.slice ta tl tc) := arr_cell hA1 rfl
  clear hr htk hb hT hn hIMS hWS hB hw1 hb1 hA1
  go_enter Tryd.func5, Tryd.ntmps5
  go_wp2_with fail
  rw [HW1.out, HB.out]
  refine (unhide HRM).mono ?_
  rintro e w2 ⟨p, gl, gm, V, m, g, gw, rfl, hD, hV, hS, hFt, hp, hgl, hgm, hmg, hBm, hb2⟩
  have HB2 := hide (HB1.out.trans (hb2.mono HB1.out.size))
  by_cases hlong : (20000 : Int) < (bn : Int)
  · clear hD hV hS hFt hb2 HRM c10 c11 c12 c13 c14
    go_wp2
    go_ret
    exact ⟨rfl, HB2.out⟩
  · have HAL := hide (all_calls hD HNL.out (by omega) (show (0 : Int) ≤ 0 by omega) (show (0 : Int) ≤ 1000000 by omega))
    have HS := hide hS
    have HFT := hide hFt
    have HV := hide hV
    have hlt := hD.lt (Or.inl rfl)
    clear hD hV hS hFt hb2 HRM c10 c11 c12 c13 c14
    go_wp2_with fail
    refine (unhide HAL).mono ?_
    rintro e w3 ⟨v3, us3, rfl, hAl3, hD3, hU3⟩
    -- the list of what is free
    have hp0 : p < w2.heap.size := hlt
    have HB3 : Hid (Below w.heap.size w w3) := hide (HB2.out.trans (hU3.below HB2.out.size (fun x e => by rw [e]; have := HB1.out.size; omega)))
    have HT3 := hide (HT.out.below HB3.out)
    have hS3 := HS.out.up hU3 (fun e => by have := unhide HFT p (Or.inl rfl); omega) (fun e => by have := unhide HFT p (Or.inl rfl); have := HS.out.row_lo.1; omega)
    have HLI := hide (list_calls hS3 HT3.out.tz)
    have HS3 := hide hS3
    have HAl3 := hide hAl3
    have HD3 := hide hD3
    have HU3 := hide hU3
    clear hS3 hAl3 hD3 hU3 HAL hlt
    go_wp2_with fail
    refine (unhide HLI).mono ?_
    rintro e w4 ⟨v4, rfl, hR4, hb4⟩
    obtain ⟨k, hk, hk1, hk2⟩ := secN_nat (show bn ≤ 1048576 by omega)
    have HSEC := hide (fun W => chSectors_calls (bn : Int) W)
    rw [hk] at HSEC
    obtain ⟨FL, hFS⟩ : ∃ FL, allF 1 0 WS = FL := ⟨_, rfl⟩
    rw [hFS] at hR4
    have hfn : freeN WS = FL.length := by rw [← freeN_allF 1 WS, hFS]
    have HFS := hide hFS
    have HR4 := hide hR4
    have HB4 := hide hb4
    obtain ⟨fa, fc, hf4⟩ := hR4.shapeI
    rw [iV_len] at hf4
    subst hf4
    by_cases hfull : FL.length < k
    · have HPU := hide (put_60 (p := p) (a := ba) (c := bc) (HS3.out.below hb4) (show bn ≤ 1048576 by omega) (by rw [hk, hfn]; omega))
      clear hR4 hb4 hFS hfn hk HLI
      go_wp2_with fail
      refine (unhide HPU).mono ?_
      rintro e w5 ⟨rfl, hb5⟩
      have HB45 := hide hb5
      have HIZ : Hid ((Tryd.prog.info? 26).map (·.size) = some zRef.length) := infoRef (by simp) 0 0
      have HOZ : Hid (∀ u ∈ zRef, u.oneCell' = true) := refV_one _ _ _
      clear hb5 HPU
      go_upto_region 7 with (first
        | (refine wpList_allocRef rfl rfl ?_)
        | (refine wpList_storeArr2 (cs' := zRef) rfl (.tmp 11) (.tmp 49) 26 rfl rfl rfl (Arr.new w5 zRef 26) HIZ.out rfl HOZ.out ?_; intro w6 hA6 hw6))
      have hb46 : Below w4.heap.size w4 w6 := HB45.out.trans ((hw6.below _ _ ((Below.refl _ _).alloc (Nat.le_refl _) _) (Nat.le_refl _)).mono HB45.out.size)
      have hb36 : Below w3.heap.size w3 w6 := HB4.out.trans (hb46.mono HB4.out.size)
      obtain ⟨g6, hg6⟩ : ∃ g6, w5.heap.size = g6 := ⟨_, rfl⟩
      rw [hg6] at hA6
      rw [hg6]
      have HR6 := hide (arr_range (ds := []) (by rw [List.append_nil]; exact hA6))
      have HS6 := hide (HS3.out.below hb36)
      have HT6 := hide (HT3.out.below hb36)
      have HB36 := hide hb36
      have hk1I : ¬ (k : Int) < 1 := by omega
      have hkF : (k : Int) > (FL.length : Int) := by omega
      have he := refz_eql
      have hgu := ref_guard6
      clear hA6 hw6 hg6 hb36
      go_wp2_with fail
      refine (unhide HSEC w6).mono ?_
      rintro e w7 ⟨rfl, hw7⟩
      obtain rfl := hw7.symm
      have HNU := hide (fun n W => num6_calls n W)
      have HLI6 := hide (list_calls HS6.out HT6.out.tz)
      have HF6 := hide (HR4.out.grown ⟨hb46.os, hb46.tape, hb46.output, hb46.size, fun k hk _ => hb46.block k hk⟩)
      clear hb46
      go_wp2_with (first
        | (go_at_call 16; refine (unhide HNU _ _).mono ?_; rintro e w8 ⟨rfl, hw8⟩; obtain rfl := hw8.symm)
        | (refine wpList_loadOn rfl 26 (.tmp 11) rfl g6 0 rfl zRef _ HR6.out Tryd.underlying26 rfl HIZ.out ?_)
        | (refine wpList_bldOn rfl rfl ?_)
        | (go_at_call 27; refine (unhide HLI6).mono ?_; rintro e w9 ⟨v9, rfl, hR9, hb9⟩; rw [HFS.out] at hR9; have hsi := sameInts6_calls hR9 (HF6.out.grown ⟨hb9.os, hb9.tape, hb9.output, hb9.size, fun k hk _ => hb9.block k hk⟩); rw [decide_eq_true rfl] at hsi; have HSI := hide hsi; have HT9 := hide (HT6.out.below hb9); have HB9 := hide hb9; clear hR9 hb9 hsi)
        | (go_at_call 21; refine (unhide HSI).mono ?_; rintro e w10 ⟨rfl, hb10⟩; have HST := hide (started_calls (HT9.out.below hb10)); have HB10 := hide hb10; clear hb10)
        | (go_at_call 12; refine (unhide HST).mono ?_; rintro e w11 ⟨rfl, hb11⟩))
      go_ret
      have x1 := HB3.out.trans (HB36.out.mono HB3.out.size)
      have x2 := x1.trans (HB9.out.mono x1.size)
      have x3 := x2.trans (HB10.out.mono x2.size)
      exact ⟨rfl, x3.trans (hb11.mono x3.size)⟩
    · have hin : ∀ x ∈ FL.take k, 1 ≤ x ∧ x < n := fun x hx => by
        have hx2 := List.mem_of_mem_take hx
        rw [← HFS.out] at hx2
        exact allF_in HS3.out x hx2
      have HPG := hide (put_good (k := k) (ks := FL.take k) (HD3.out.below hb4) (HS3.out.below hb4) (HT3.out.below hb4) (show bn ≤ 1048576 by omega) hk (by rw [hfn]; omega) (fun x hx => by rw [hFS] at hx; have h1 := hin x hx; refine ⟨h1.1, ?_⟩; show x < IMS.length; rw [HNL.out]; exact h1.2) ((HBS.out.below HB3.out).below hb4) (fun h0 x hx => by have h1 := isB_lt HBS.out h0 hx; have h2 := HS3.out.row_lo.1; have h3 := HB1.out.size; omega) (by have h1 := HT.out.size; have h2 := HS3.out.row_lo.1; have h3 := HB1.out.size; omega) (fun x hx => by have h1 := unhide HFT x hx; have h2 := HS3.out.row_lo.1; have h3 := ft_lo HV.out hp hgl hgm x hx; have h4 := HT.out.size; have h5 := HB1.out.size; omega) (by show (0 : Int) ≤ 0; omega) (by show (0 : Int) ≤ _; omega) (fun x => by show ([] : List (List Int)).length ≤ _; simp) (by rw [hFS]))
      clear hR4 hb4 hFS hfn HLI
      go_wp2_with fail
      refine (unhide HPG).mono ?_
      rintro e w5 ⟨g2, c2, V', rfl, hR5, hD5, hS5, hF5, hU5⟩
      have hsl := shaOf_len bs
      have HIR := hide (infoRef hsl (((FL.take k).getD 0 0 : Nat) : Int) (bn : Int))
      have HOR := hide (refV_one (shaOf bs) (((FL.take k).getD 0 0 : Nat) : Int) (bn : Int))
      have HZR : Hid (zRef.length = (refV (shaOf bs) (((FL.take k).getD 0 0 : Nat) : Int) (bn : Int)).length) := by show _ = _; rw [refV_len hsl]; rfl
      obtain ⟨RV, hRV⟩ : ∃ RV, refV (shaOf bs) (((FL.take k).getD 0 0 : Nat) : Int) (bn : Int) = RV := ⟨_, rfl⟩
      rw [hRV] at HIR HOR HZR
      rw [hRV]
      have HRV := hide hRV
      have HR5 := hide hR5
      have HD5 := hide hD5
      have HS5 := hide hS5
      have HF5 := hide hF5
      have HU5 := hide hU5
      clear hR5 hD5 hS5 hF5 hU5 hRV HPG hsl
      go_upto_region 7 with (first
        | (refine wpList_allocRef rfl rfl ?_)
        | (refine wpList_storeArr2 (cs' := RV) rfl (.tmp 11) (.tmp 49) 26 rfl rfl rfl (Arr.new w5 zRef 26) HIR.out HZR.out HOR.out ?_; intro w6 hA6 hw6))
      have hb56 : Below w5.heap.size w5 w6 := hw6.below _ _ ((Below.refl _ _).alloc (Nat.le_refl _) _) (Nat.le_refl _)
      have hU46 := HU5.out.then_below hb56
      have hlo : ∀ x, (x = gw ∨ Ft p gl gm V x) → x < w2.heap.size := fun x hx => by
        rcases hx with rfl | hx
        · exact HS.out.ltw
        · have h1 := unhide HFT x hx
          have h2 := HS.out.ltg
          omega
      have hs23 : w2.heap.size ≤ w3.heap.size := HU3.out.size
      have HF6 := hide (owns_up HR4.out hU46 (fun x hx hF => by have h1 := (Row.lt HR4.out x hx).1; have h2 := hlo x hF; omega))
      have hU36 : Up (fun b => b = gw ∨ Ft p gl gm V b) w3 w6 := (Up.of_below HB4.out).trans hU46 (fun x hx => Or.inl hx)
      have HAl6 := hide (HAl3.out.upT hU36 (fun b c m hb _ hF => by have h2 := hlo b hF; omega) (fun b c m hb _ hF => by have h2 := hlo b hF; omega))
      obtain ⟨g6, hg6⟩ : ∃ g6, w5.heap.size = g6 := ⟨_, rfl⟩
      rw [hg6] at hA6
      rw [hg6]
      have HG6 := hide hg6
      have HA6 := hide hA6
      have HB56 := hide hb56
      have HU36 := hide hU36
      have HLO := hide hlo
      have hk1I : ¬ (k : Int) < 1 := by omega
      have hkF : ¬ (k : Int) > (FL.length : Int) := by omega
      clear hb56 hU46 hlo hU36 hA6 hw6 hg6
      go_wp2_with fail
      refine (unhide HSEC w6).mono ?_
      rintro e w7 ⟨rfl, hw7⟩
      obtain rfl := hw7.symm
      -- what was taken, what is left, the ref: region 12
      obtain ⟨f0, hf0⟩ : ∃ f0, (FL.take k).getD 0 0 = f0 := ⟨_, rfl⟩
      have hkl : (FL.take k).length = k := by rw [List.length_take]; omega
      have hfa : ∃ gf, fa = some ⟨gf, 0, none⟩ := by
        rcases HR4.out.2 with ⟨hv, h0⟩ | ⟨gf, cap, cur, hv, _⟩
        · rw [iV_len] at h0; omega
        · injection hv with e1; exact ⟨gf, e1⟩
      obtain ⟨gf, rfl⟩ := hfa
      have hfc : FL.length ≤ fc := by
        obtain ⟨_, _, hv, hl, _⟩ := (row_isT HF6.out).val
        injection hv with _ _ e3
        have : (iZ FL).length = FL.length := by unfold iZ; simp
        omega
      have hc1 := cut6h (g := gf) (n := FL.length) (c := fc) (m := k) (by omega) (by omega)
      obtain ⟨al, hc2, hal⟩ := cut6l (g := gf) (n := FL.length) (c := fc) (k := k) (by omega)
      have HFT6 := hide (row_isT HF6.out)
      have hR6 := owns_below HR5.out HB56.out
      have HR6 := hide hR6
      have HS6 := hide (HS5.out.below HB56.out)
      have HD6 := hide (HD5.out.below HB56.out)
      have HT6 : Hid (TT w6) := hide (HT3.out.up HU36.out (fun b hb => by
        have h3 := HT.out.size
        have h5 := HB1.out.size
        rcases hb with rfl | hb
        · have h2 := HS3.out.row_lo.1; omega
        · have h2 := ft_lo HV.out hp hgl hgm b hb; omega))
      have HSA : Hid (∀ W, Below w6.heap.size w6 W → Calls Tryd.prog 21 #[.slice (some ⟨g2, 0, none⟩) k c2, .slice (some ⟨gf, 0, none⟩) k fc] W fun e w' => e = .returned (.bool true) ∧ Below W.heap.size W w') := hide (fun W hW => by
        have h1 := (row_isT hR6).belowJ hW
        rw [iZ_take] at h1
        exact sameIntsT_calls h1 ((HFT6.out.takeJ (by omega)).belowJ hW))
      have hlf : allF 1 0 (claimAll 1 n WS (FL.take k)) = FL.drop k := by
        rw [← HFS.out]
        refine allF_taken HS3.out (w' := w6) (B' := m) (g' := g) (gw' := gw) ?_
        rw [HFS.out]
        exact HS6.out
      have HLI : Hid (∀ W, Below w6.heap.size w6 W → Calls Tryd.prog 27 #[.pointer (some ⟨g, 0, none⟩)] W fun e w' => ∃ la ln lc, e = .returned (.slice la ln lc) ∧ Row w' W.heap.size 3 (.slice la ln lc) (iV (FL.drop k)) ∧ Below W.heap.size W w') := hide (fun W hW => by
        have h1 := list_calls (HS6.out.below hW) (HT6.out.below hW).tz
        rw [hlf] at h1
        refine h1.mono ?_
        rintro e w' ⟨v, rfl, hr, hb⟩
        obtain ⟨la, lc, hv⟩ := hr.shapeI
        subst hv
        exact ⟨_, _, _, rfl, hr, hb⟩)
      have HSB : Hid (∀ W B v, Below w6.heap.size w6 W → Row W B 3 v (iV (FL.drop k)) → Calls Tryd.prog 21 #[v, .slice al (FL.length - k) (fc - k)] W fun e w' => e = .returned (.bool true) ∧ Below W.heap.size W w') := hide (fun W B v hW hr => by
        have h1 := row_isT hr
        rw [iZ_drop] at h1
        exact sameIntsT_calls h1 ((HFT6.out.belowJ hW).dropK (by omega) hal))
      have hbs6 : IsB w6 (.slice ba bn bc) bs := (HBS.out.below HB3.out).up0 HU36.out (fun h0 x hx hF => by
        have h0' : 0 < bn := by have := HBS.out.lenEq; omega
        have h1 := isB_lt HBS.out h0' hx
        have h5 := HB1.out.size
        rcases hF with rfl | hF
        · have h2 := HS3.out.row_lo.1; omega
        · have h2 := ft_lo HV.out hp hgl hgm x hF; omega)
      have HBS6 := hide hbs6
      have HSM : Hid (∀ W, Below w6.heap.size w6 W → Calls Tryd.prog 28 #[.slice (some ⟨W.heap.size, 0, none⟩) 1 1] (W.alloc (.cells #[.slice ba bn bc] 22)) fun e w' => e = .returned (.agg ((shaOf bs).map (Value.int .u8)).toArray) ∧ Below W.heap.size W w') := hide (fun W hW => by
        have hb := (Below.refl W.heap.size W).alloc (Nat.le_refl _) (.cells #[.slice ba bn bc] 22)
        have hT2 := (HT6.out.below hW).below hb
        have h3 := sums_calls (isBB_one (hbs6.below hW)) (by have := HBS.out.lenEq; simp; omega) hT2.k hT2.s
        have e : keyV ([bs] : List (List Int)).flatten = .agg ((shaOf bs).map (Value.int .u8)).toArray := by simp [keyV]
        rw [e] at h3
        refine h3.mono ?_
        rintro e w' ⟨rfl, hb9⟩
        exact ⟨rfl, hb.trans (hb9.mono hb.size)⟩)
      have hsl := shaOf_len bs
      have hrv : RV = refV (shaOf bs) (f0 : Int) (bn : Int) := by rw [← HRV.out, hf0]
      have hAr : Arr w6 g6 26 (refV (shaOf bs) (f0 : Int) (bn : Int)) := by rw [← hrv]; exact HA6.out
      have HSW : Hid (∀ W, Below w6.heap.size w6 W → W.cell? ⟨g6, 32, none⟩ = some (.int .i64 (f0 : Int)) ∧ W.cell? ⟨g6, 33, none⟩ = some (.int .i64 (bn : Int)) ∧ W.cell? ⟨g2, 0, none⟩ = some (.int .i64 (f0 : Int)) ∧ W.rangeAt g6 0 ((shaOf bs).map (Value.int .u8))) := hide (fun W hW => by
        have h1 := hAr.below hW
        have h2 := row_first (owns_below HR6.out hW) (j := 0) (by rw [hkl]; omega)
        rw [hf0] at h2
        exact ⟨arr_cell h1 (refV_32 hsl _ _), arr_cell h1 (refV_33 hsl _ _), h2, ref_key (arr_range (ds := []) (by rw [List.append_nil]; exact h1))⟩)
      have hiK := infoKey hsl
      have hkn : ∀ W : World, (binOp .neq 24 (.agg ((shaOf bs).map (Value.int .u8)).toArray) (.agg ((shaOf bs).map (Value.int .u8)).toArray)).run Tryd.prog W = .ok (.bool false) W := fun W => by
        rw [key_neq _ _ hsl hsl, decide_eq_true rfl]
        rfl
      have hkz : ¬ k = 0 := by omega
      generalize (shaOf bs).map (Value.int .u8) = KV at *
      have HK1 : Hid (1 ≤ k) := hide hk1
      have HX12 := hide (And.intro hf0 (And.intro hkl hfc))
      have HAR := hide hAr
      clear hR6 hlf hbs6 hrv hAr hf0 hkl hfc hal
      go_wp2_with fail
      refine wp_region_held_drew (S := fun W => W.cell? ⟨g6, 32, none⟩ = some (.int .i64 (f0 : Int)) ∧ W.cell? ⟨g6, 33, none⟩ = some (.int .i64 (bn : Int)) ∧ W.cell? ⟨g2, 0, none⟩ = some (.int .i64 (f0 : Int)) ∧ W.rangeAt g6 0 KV) (by kernel_rfl) (unhide HSW _ (Below.refl _ _).drew) (fun hHeld => ?_)
      refine wpAnyH_take (i := 0) (v := .int .i64 0) rfl (by kernel_rfl) (by kernel_rfl) (by kernel_rfl) (fun _ _ _ h => h) (Or.inl ⟨by rfl, fun w hSw => by obtain ⟨hS1, hS2, hS3, hS4⟩ := hSw; go_simp⟩) (by assumption) ?_
      simp only [List.getElem_toArray, List.getElem_cons_zero, Act.put, List.setIfInBounds_toArray, List.set_cons_zero, List.set_cons_succ]
      refine wpAnyH_ready (rs := [1]) (by kernel_rfl) (by simp) (AllReadyH.cons rfl (fun K hK => ?_) AllReadyH.nil)
      refine step_call1C (by rfl) 16 num6_enter (.tmp 83) _ rfl rfl (num6_calls 0 _) ?_
      rintro e wn ⟨rfl, hwn⟩
      obtain rfl := hwn.symm
      clear hwn
      refine ⟨_, rfl, ?_⟩
      refine hK.out _ _ (hHeld) (fun hJ0 => ?_)
      clear hK K
      simp only [List.getElem_toArray, List.getElem_cons_succ, List.getElem_cons_zero, Act.put, List.setIfInBounds_toArray, List.set_cons_zero, List.set_cons_succ]
      refine wpAnyH_take (i := 2) (v := .bool false) rfl (by kernel_rfl) (by kernel_rfl) (by kernel_rfl) (fun _ _ _ h => h) (Or.inl ⟨by rfl, fun w hSw => by obtain ⟨hS1, hS2, hS3, hS4⟩ := hSw; go_simp⟩) (by assumption) ?_
      simp only [List.getElem_toArray, List.getElem_cons_succ, List.getElem_cons_zero, Act.put, List.setIfInBounds_toArray, List.set_cons_zero, List.set_cons_succ]
      refine wpAnyH_take (i := 3) (v := .bool false) rfl (by kernel_rfl) (by kernel_rfl) (by kernel_rfl) (fun _ _ _ h => h) (Or.inl ⟨by rfl, fun w hSw => by obtain ⟨hS1, hS2, hS3, hS4⟩ := hSw; go_simp⟩) (by assumption) ?_
      simp only [List.getElem_toArray, List.getElem_cons_succ, List.getElem_cons_zero, Act.put, List.setIfInBounds_toArray, List.set_cons_zero, List.set_cons_succ]
      refine wpAnyH_take (i := 4) (v := .slice (some ⟨g2, 0, none⟩) k c2) rfl (by kernel_rfl) (by kernel_rfl) (by kernel_rfl) (fun _ _ _ h => h) (Or.inl ⟨by rfl, fun w hSw => by obtain ⟨hS1, hS2, hS3, hS4⟩ := hSw; go_simp⟩) (by assumption) ?_
      simp only [List.getElem_toArray, List.getElem_cons_succ, List.getElem_cons_zero, Act.put, List.setIfInBounds_toArray, List.set_cons_zero, List.set_cons_succ]
      refine wpAnyH_take (i := 5) (v := .slice (some ⟨gf, 0, none⟩) FL.length fc) rfl (by kernel_rfl) (by kernel_rfl) (by kernel_rfl) (fun _ _ _ h => h) (Or.inl ⟨by rfl, fun w hSw => by obtain ⟨hS1, hS2, hS3, hS4⟩ := hSw; go_simp⟩) (by assumption) ?_
      simp only [List.getElem_toArray, List.getElem_cons_succ, List.getElem_cons_zero, Act.put, List.setIfInBounds_toArray, List.set_cons_zero, List.set_cons_succ]
      refine wpAnyH_take (i := 6) (v := .int .i64 (k : Int)) rfl (by kernel_rfl) (by kernel_rfl) (by kernel_rfl) (fun _ _ _ h => h) (Or.inl ⟨by rfl, fun w hSw => by obtain ⟨hS1, hS2, hS3, hS4⟩ := hSw; go_simp⟩) (by assumption) ?_
      simp only [List.getElem_toArray, List.getElem_cons_succ, List.getElem_cons_zero, Act.put, List.setIfInBounds_toArray, List.set_cons_zero, List.set_cons_succ]
      refine wpAnyH_take (i := 7) (v := .slice (some ⟨gf, 0, none⟩) k fc) rfl (by kernel_rfl) (by kernel_rfl) (by kernel_rfl) (fun _ _ _ h => h) (Or.inl ⟨by rfl, fun w hSw => by obtain ⟨hS1, hS2, hS3, hS4⟩ := hSw; go_simp⟩) (by assumption) ?_
      simp only [List.getElem_toArray, List.getElem_cons_succ, List.getElem_cons_zero, Act.put, List.setIfInBounds_toArray, List.set_cons_zero, List.set_cons_succ]
      refine wpAnyH_ready (rs := [8]) (by kernel_rfl) (by simp) (AllReadyH.cons rfl (fun K hK => ?_) AllReadyH.nil)
      refine step_call2GC (by rfl) 21 sameInts6_enter (.tmp 87) (.tmp 90) _ rfl rfl rfl (unhide HSA _ (Below.refl _ _).drew) ?_
      rintro e wa ⟨rfl, hba⟩
      have hxa : Below w6.heap.size w6 wa := ((Below.refl _ _).drew : Below w6.heap.size w6 w6.drew).trans (hba.mono (Nat.le_refl _))
      refine ⟨_, rfl, ?_⟩
      refine hK.out _ _ (unhide HSW _ hxa) (fun hJ1 => ?_)
      clear hK K
      simp only [List.getElem_toArray, List.getElem_cons_succ, List.getElem_cons_zero, Act.put, List.setIfInBounds_toArray, List.set_cons_zero, List.set_cons_succ]
      refine wpAnyH_take (i := 9) (v := .bool false) rfl (by kernel_rfl) (by kernel_rfl) (by kernel_rfl) (fun _ _ _ h => h) (Or.inl ⟨by rfl, fun w hSw => by obtain ⟨hS1, hS2, hS3, hS4⟩ := hSw; go_simp⟩) (by assumption) ?_
      simp only [List.getElem_toArray, List.getElem_cons_succ, List.getElem_cons_zero, Act.put, List.setIfInBounds_toArray, List.set_cons_zero, List.set_cons_succ]
      refine wpAnyH_take (i := 10) (v := .bool false) rfl (by kernel_rfl) (by kernel_rfl) (by kernel_rfl) (fun _ _ _ h => h) (Or.inl ⟨by rfl, fun w hSw => by obtain ⟨hS1, hS2, hS3, hS4⟩ := hSw; go_simp⟩) (by assumption) ?_
      simp only [List.getElem_toArray, List.getElem_cons_succ, List.getElem_cons_zero, Act.put, List.setIfInBounds_toArray, List.set_cons_zero, List.set_cons_succ]
      refine wpAnyH_take (i := 11) (v := .bool false) rfl (by kernel_rfl) (by kernel_rfl) (by kernel_rfl) (fun _ _ _ h => h) (Or.inl ⟨by rfl, fun w hSw => by obtain ⟨hS1, hS2, hS3, hS4⟩ := hSw; go_simp⟩) (by assumption) ?_
      simp only [List.getElem_toArray, List.getElem_cons_succ, List.getElem_cons_zero, Act.put, List.setIfInBounds_toArray, List.set_cons_zero, List.set_cons_succ]
      refine wpAnyH_take (i := 12) (v := .pointer (some ⟨g, 0, none⟩)) rfl (by kernel_rfl) (by kernel_rfl) (by kernel_rfl) (fun _ _ _ h => h) (Or.inl ⟨by rfl, fun w hSw => by obtain ⟨hS1, hS2, hS3, hS4⟩ := hSw; go_simp⟩) (by assumption) ?_
      simp only [List.getElem_toArray, List.getElem_cons_succ, List.getElem_cons_zero, Act.put, List.setIfInBounds_toArray, List.set_cons_zero, List.set_cons_succ]
      refine wpAnyH_take (i := 14) (v := .slice (some ⟨gf, 0, none⟩) FL.length fc) rfl (by kernel_rfl) (by kernel_rfl) (by kernel_rfl) (fun _ _ _ h => h) (Or.inl ⟨by rfl, fun w hSw => by obtain ⟨hS1, hS2, hS3, hS4⟩ := hSw; go_simp⟩) (by assumption) ?_
      simp only [List.getElem_toArray, List.getElem_cons_succ, List.getElem_cons_zero, Act.put, List.setIfInBounds_toArray, List.set_cons_zero, List.set_cons_succ]
      refine wpAnyH_take (i := 15) (v := .int .i64 (k : Int)) rfl (by kernel_rfl) (by kernel_rfl) (by kernel_rfl) (fun _ _ _ h => h) (Or.inl ⟨by rfl, fun w hSw => by obtain ⟨hS1, hS2, hS3, hS4⟩ := hSw; go_simp⟩) (by assumption) ?_
      simp only [List.getElem_toArray, List.getElem_cons_succ, List.getElem_cons_zero, Act.put, List.setIfInBounds_toArray, List.set_cons_zero, List.set_cons_succ]
      refine wpAnyH_take (i := 16) (v := .slice (al) (FL.length - k) (fc - k)) rfl (by kernel_rfl) (by kernel_rfl) (by kernel_rfl) (fun _ _ _ h => h) (Or.inl ⟨by rfl, fun w hSw => by obtain ⟨hS1, hS2, hS3, hS4⟩ := hSw; go_simp⟩) (by assumption) ?_
      simp only [List.getElem_toArray, List.getElem_cons_succ, List.getElem_cons_zero, Act.put, List.setIfInBounds_toArray, List.set_cons_zero, List.set_cons_succ]
      refine wpAnyH_ready (rs := [13]) (by kernel_rfl) (by simp) (AllReadyH.cons rfl (fun K hK => ?_) AllReadyH.nil)
      refine step_call1GC (by rfl) 27 list6_enter (.tmp 95) _ rfl rfl (unhide HLI _ hxa) ?_
      rintro e wb ⟨la, ln, lc, rfl, hrb, hbb⟩
      have hxb : Below w6.heap.size w6 wb := hxa.trans (hbb.mono hxa.size)
      refine ⟨_, rfl, ?_⟩
      refine hK.out _ _ (unhide HSW _ hxb) (fun hJ2 => ?_)
      clear hK K
      simp only [List.getElem_toArray, List.getElem_cons_succ, List.getElem_cons_zero, Act.put, List.setIfInBounds_toArray, List.set_cons_zero, List.set_cons_succ]
      refine wpAnyH_ready (rs := [17]) (by kernel_rfl) (by simp) (AllReadyH.cons rfl (fun K hK => ?_) AllReadyH.nil)
      refine step_call2GC (by rfl) 21 sameInts6_enter (.tmp 96) (.tmp 99) _ rfl rfl rfl (unhide HSB _ _ _ hxb hrb) ?_
      rintro e wc ⟨rfl, hbc⟩
      have hxc : Below w6.heap.size w6 wc := hxb.trans (hbc.mono hxb.size)
      refine ⟨_, rfl, ?_⟩
      refine hK.out _ _ (unhide HSW _ hxc) (fun hJ3 => ?_)
      clear hK K
      simp only [List.getElem_toArray, List.getElem_cons_succ, List.getElem_cons_zero, Act.put, List.setIfInBounds_toArray, List.set_cons_zero, List.set_cons_succ]
      refine wpAnyH_take (i := 18) (v := .bool false) rfl (by kernel_rfl) (by kernel_rfl) (by kernel_rfl) (fun _ _ _ h => h) (Or.inl ⟨by rfl, fun w hSw => by obtain ⟨hS1, hS2, hS3, hS4⟩ := hSw; go_simp⟩) (by assumption) ?_
      simp only [List.getElem_toArray, List.getElem_cons_succ, List.getElem_cons_zero, Act.put, List.setIfInBounds_toArray, List.set_cons_zero, List.set_cons_succ]
      refine wpAnyH_take (i := 19) (v := .bool false) rfl (by kernel_rfl) (by kernel_rfl) (by kernel_rfl) (fun _ _ _ h => h) (Or.inl ⟨by rfl, fun w hSw => by obtain ⟨hS1, hS2, hS3, hS4⟩ := hSw; go_simp⟩) (by assumption) ?_
      simp only [List.getElem_toArray, List.getElem_cons_succ, List.getElem_cons_zero, Act.put, List.setIfInBounds_toArray, List.set_cons_zero, List.set_cons_succ]
      refine wpAnyH_take (i := 20) (v := .bool false) rfl (by kernel_rfl) (by kernel_rfl) (by kernel_rfl) (fun _ _ _ h => h) (Or.inl ⟨by rfl, fun w hSw => by obtain ⟨hS1, hS2, hS3, hS4⟩ := hSw; go_simp⟩) (by assumption) ?_
      simp only [List.getElem_toArray, List.getElem_cons_succ, List.getElem_cons_zero, Act.put, List.setIfInBounds_toArray, List.set_cons_zero, List.set_cons_succ]
      refine wpAnyH_take (i := 21) (v := .pointer (some ⟨g6, 32, none⟩)) rfl (by kernel_rfl) (by kernel_rfl) (by kernel_rfl) (fun _ _ _ h => h) (Or.inl ⟨by rfl, fun w hSw => by obtain ⟨hS1, hS2, hS3, hS4⟩ := hSw; go_simp⟩) (by assumption) ?_
      simp only [List.getElem_toArray, List.getElem_cons_succ, List.getElem_cons_zero, Act.put, List.setIfInBounds_toArray, List.set_cons_zero, List.set_cons_succ]
      refine wpAnyH_take (i := 22) (v := .int .i64 (f0 : Int)) rfl (by kernel_rfl) (by kernel_rfl) (by kernel_rfl) (fun _ _ _ h => h) (Or.inl ⟨by rfl, fun w hSw => by obtain ⟨hS1, hS2, hS3, hS4⟩ := hSw; go_simp⟩) (by assumption) ?_
      simp only [List.getElem_toArray, List.getElem_cons_succ, List.getElem_cons_zero, Act.put, List.setIfInBounds_toArray, List.set_cons_zero, List.set_cons_succ]
      refine wpAnyH_take (i := 23) (v := .slice (some ⟨g2, 0, none⟩) k c2) rfl (by kernel_rfl) (by kernel_rfl) (by kernel_rfl) (fun _ _ _ h => h) (Or.inl ⟨by rfl, fun w hSw => by obtain ⟨hS1, hS2, hS3, hS4⟩ := hSw; go_simp⟩) (by assumption) ?_
      simp only [List.getElem_toArray, List.getElem_cons_succ, List.getElem_cons_zero, Act.put, List.setIfInBounds_toArray, List.set_cons_zero, List.set_cons_succ]
      refine wpAnyH_take (i := 24) (v := .pointer (some ⟨g2, 0, none⟩)) rfl (by kernel_rfl) (by kernel_rfl) (by kernel_rfl) (fun _ _ _ h => h) (Or.inl ⟨by rfl, fun w hSw => by obtain ⟨hS1, hS2, hS3, hS4⟩ := hSw; go_simp⟩) (by assumption) ?_
      simp only [List.getElem_toArray, List.getElem_cons_succ, List.getElem_cons_zero, Act.put, List.setIfInBounds_toArray, List.set_cons_zero, List.set_cons_succ]
      refine wpAnyH_take (i := 25) (v := .int .i64 (f0 : Int)) rfl (by kernel_rfl) (by kernel_rfl) (by kernel_rfl) (fun _ _ _ h => h) (Or.inl ⟨by rfl, fun w hSw => by obtain ⟨hS1, hS2, hS3, hS4⟩ := hSw; go_simp⟩) (by assumption) ?_
      simp only [List.getElem_toArray, List.getElem_cons_succ, List.getElem_cons_zero, Act.put, List.setIfInBounds_toArray, List.set_cons_zero, List.set_cons_succ]
      refine wpAnyH_take (i := 26) (v := .bool false) rfl (by kernel_rfl) (by kernel_rfl) (by kernel_rfl) (fun _ _ _ h => h) (Or.inl ⟨by rfl, fun w hSw => by obtain ⟨hS1, hS2, hS3, hS4⟩ := hSw; go_simp⟩) (by assumption) ?_
      simp only [List.getElem_toArray, List.getElem_cons_succ, List.getElem_cons_zero, Act.put, List.setIfInBounds_toArray, List.set_cons_zero, List.set_cons_succ]
      refine wpAnyH_take (i := 27) (v := .bool false) rfl (by kernel_rfl) (by kernel_rfl) (by kernel_rfl) (fun _ _ _ h => h) (Or.inl ⟨by rfl, fun w hSw => by obtain ⟨hS1, hS2, hS3, hS4⟩ := hSw; go_simp⟩) (by assumption) ?_
      simp only [List.getElem_toArray, List.getElem_cons_succ, List.getElem_cons_zero, Act.put, List.setIfInBounds_toArray, List.set_cons_zero, List.set_cons_succ]
      refine wpAnyH_take (i := 28) (v := .bool false) rfl (by kernel_rfl) (by kernel_rfl) (by kernel_rfl) (fun _ _ _ h => h) (Or.inl ⟨by rfl, fun w hSw => by obtain ⟨hS1, hS2, hS3, hS4⟩ := hSw; go_simp⟩) (by assumption) ?_
      simp only [List.getElem_toArray, List.getElem_cons_succ, List.getElem_cons_zero, Act.put, List.setIfInBounds_toArray, List.set_cons_zero, List.set_cons_succ]
      refine wpAnyH_take (i := 29) (v := .pointer (some ⟨g6, 33, none⟩)) rfl (by kernel_rfl) (by kernel_rfl) (by kernel_rfl) (fun _ _ _ h => h) (Or.inl ⟨by rfl, fun w hSw => by obtain ⟨hS1, hS2, hS3, hS4⟩ := hSw; go_simp⟩) (by assumption) ?_
      simp only [List.getElem_toArray, List.getElem_cons_succ, List.getElem_cons_zero, Act.put, List.setIfInBounds_toArray, List.set_cons_zero, List.set_cons_succ]
      refine wpAnyH_take (i := 30) (v := .int .i64 (bn : Int)) rfl (by kernel_rfl) (by kernel_rfl) (by kernel_rfl) (fun _ _ _ h => h) (Or.inl ⟨by rfl, fun w hSw => by obtain ⟨hS1, hS2, hS3, hS4⟩ := hSw; go_simp⟩) (by assumption) ?_
      simp only [List.getElem_toArray, List.getElem_cons_succ, List.getElem_cons_zero, Act.put, List.setIfInBounds_toArray, List.set_cons_zero, List.set_cons_succ]
      refine wpAnyH_take (i := 31) (v := .slice (ba) bn bc) rfl (by kernel_rfl) (by kernel_rfl) (by kernel_rfl) (fun _ _ _ h => h) (Or.inl ⟨by rfl, fun w hSw => by obtain ⟨hS1, hS2, hS3, hS4⟩ := hSw; go_simp⟩) (by assumption) ?_
      simp only [List.getElem_toArray, List.getElem_cons_succ, List.getElem_cons_zero, Act.put, List.setIfInBounds_toArray, List.set_cons_zero, List.set_cons_succ]
      refine wpAnyH_take (i := 32) (v := .int .i64 (bn : Int)) rfl (by kernel_rfl) (by kernel_rfl) (by kernel_rfl) (fun _ _ _ h => h) (Or.inl ⟨by rfl, fun w hSw => by obtain ⟨hS1, hS2, hS3, hS4⟩ := hSw; go_simp⟩) (by assumption) ?_
      simp only [List.getElem_toArray, List.getElem_cons_succ, List.getElem_cons_zero, Act.put, List.setIfInBounds_toArray, List.set_cons_zero, List.set_cons_succ]
      refine wpAnyH_take (i := 33) (v := .bool false) rfl (by kernel_rfl) (by kernel_rfl) (by kernel_rfl) (fun _ _ _ h => h) (Or.inl ⟨by rfl, fun w hSw => by obtain ⟨hS1, hS2, hS3, hS4⟩ := hSw; go_simp⟩) (by assumption) ?_
      simp only [List.getElem_toArray, List.getElem_cons_succ, List.getElem_cons_zero, Act.put, List.setIfInBounds_toArray, List.set_cons_zero, List.set_cons_succ]
      refine wpAnyH_take (i := 34) (v := .bool false) rfl (by kernel_rfl) (by kernel_rfl) (by kernel_rfl) (fun _ _ _ h => h) (Or.inl ⟨by rfl, fun w hSw => by obtain ⟨hS1, hS2, hS3, hS4⟩ := hSw; go_simp⟩) (by assumption) ?_
      simp only [List.getElem_toArray, List.getElem_cons_succ, List.getElem_cons_zero, Act.put, List.setIfInBounds_toArray, List.set_cons_zero, List.set_cons_succ]
      refine wpAnyH_take (i := 35) (v := .bool false) rfl (by kernel_rfl) (by kernel_rfl) (by kernel_rfl) (fun _ _ _ h => h) (Or.inl ⟨by rfl, fun w hSw => by obtain ⟨hS1, hS2, hS3, hS4⟩ := hSw; go_simp⟩) (by assumption) ?_
      simp only [List.getElem_toArray, List.getElem_cons_succ, List.getElem_cons_zero, Act.put, List.setIfInBounds_toArray, List.set_cons_zero, List.set_cons_succ]
      refine wpAnyH_take (i := 36) (v := .pointer (some ⟨g6, 0, none⟩)) rfl (by kernel_rfl) (by kernel_rfl) (by kernel_rfl) (fun _ _ _ h => h) (Or.inl ⟨by rfl, fun w hSw => by obtain ⟨hS1, hS2, hS3, hS4⟩ := hSw; go_simp⟩) (by assumption) ?_
      simp only [List.getElem_toArray, List.getElem_cons_succ, List.getElem_cons_zero, Act.put, List.setIfInBounds_toArray, List.set_cons_zero, List.set_cons_succ]
      refine wpAnyH_take (i := 37) (v := .agg (KV).toArray) rfl (by kernel_rfl) (by kernel_rfl) (by kernel_rfl) (fun _ _ _ h => h) (yieldsIf_load_mid (by rfl) _ _ rfl _ _ rfl _ _ (fun w hSw => hSw.2.2.2) Tryd.underlying24 rfl hiK) (by assumption) ?_
      simp only [List.getElem_toArray, List.getElem_cons_succ, List.getElem_cons_zero, Act.put, List.setIfInBounds_toArray, List.set_cons_zero, List.set_cons_succ]
      refine wpAnyH_take (i := 38) (v := .slice (ba) bn bc) rfl (by kernel_rfl) (by kernel_rfl) (by kernel_rfl) (fun _ _ _ h => h) (Or.inl ⟨by rfl, fun w hSw => by obtain ⟨hS1, hS2, hS3, hS4⟩ := hSw; go_simp⟩) (by assumption) ?_
      simp only [List.getElem_toArray, List.getElem_cons_succ, List.getElem_cons_zero, Act.put, List.setIfInBounds_toArray, List.set_cons_zero, List.set_cons_succ]
      refine wpAnyH_ready (rs := [39]) (by kernel_rfl) (by simp) (AllReadyH.cons rfl (fun K hK => ?_) AllReadyH.nil)
      refine step_buildSlW (by rfl) (.tmp 121) rfl rfl ?_
      have hxd : Below w6.heap.size w6 (wc.alloc (.cells #[.slice ba bn bc] 22)) := hxc.alloc hxc.size _
      refine hK.out _ _ (unhide HSW _ hxd) (fun hJ4 => ?_)
      clear hK K
      simp only [List.getElem_toArray, List.getElem_cons_succ, List.getElem_cons_zero, Act.put, List.setIfInBounds_toArray, List.set_cons_zero, List.set_cons_succ]
      refine wpAnyH_ready (rs := [40]) (by kernel_rfl) (by simp) (AllReadyH.cons rfl (fun K hK => ?_) AllReadyH.nil)
      refine step_call1GC (by rfl) 28 shasum_enter (.tmp 122) _ rfl rfl (unhide HSM _ hxc) ?_
      rintro e we ⟨rfl, hbe⟩
      have hxe : Below w6.heap.size w6 we := hxc.trans (hbe.mono hxc.size)
      refine ⟨_, rfl, ?_⟩
      refine hK.out _ _ (unhide HSW _ hxe) (fun hJ5 => ?_)
      clear hK K
      simp only [List.getElem_toArray, List.getElem_cons_succ, List.getElem_cons_zero, Act.put, List.setIfInBounds_toArray, List.set_cons_zero, List.set_cons_succ]
      refine wpAnyH_take (i := 41) (v := .bool false) rfl (by kernel_rfl) (by kernel_rfl) (by kernel_rfl) (fun _ _ _ h => h) (Or.inl ⟨by rfl, fun w hSw => by obtain ⟨hS1, hS2, hS3, hS4⟩ := hSw; go_simp⟩) (by assumption) ?_
      simp only [List.getElem_toArray, List.getElem_cons_succ, List.getElem_cons_zero, Act.put, List.setIfInBounds_toArray, List.set_cons_zero, List.set_cons_succ]
      refine wpAnyH_take (i := 42) (v := .bool false) rfl (by kernel_rfl) (by kernel_rfl) (by kernel_rfl) (fun _ _ _ h => h) (Or.inl ⟨by rfl, fun w hSw => by obtain ⟨hS1, hS2, hS3, hS4⟩ := hSw; go_simp⟩) (by assumption) ?_
      simp only [List.getElem_toArray, List.getElem_cons_succ, List.getElem_cons_zero, Act.put, List.setIfInBounds_toArray, List.set_cons_zero, List.set_cons_succ]
      refine wpAnyH_done (by kernel_rfl) ?_ _
      -- what lies there now
      obtain ⟨D1, hD1⟩ : ∃ D1, putAll (AD.reads ⟨IMS, fun _ => [], 0, 0, 0⟩ n) bs (FL.take k) k = D1 := ⟨_, rfl⟩
      obtain ⟨D0, hD0⟩ : ∃ D0 : AD, (⟨IMS, fun _ => [], 0, 0, 0⟩ : AD) = D0 := ⟨_, rfl⟩
      have hla1 : D1.la.length = n := by rw [← hD1, putAll_la]; exact HNL.out
      have hrd1 : D1.rd = (n : Int) := by rw [← hD1, putAll_rd]; show (0 : Int) + (n : Int) = n; omega
      have hDe := HD6.out.below hxe
      rw [hD1] at hDe
      have HAL2 := hide (all_calls hDe hla1 (by omega) (by omega) (by omega))
      have HBK : Hid (Bk we g2 k g6 (FL.take k) (refV (shaOf bs) (f0 : Int) (bn : Int)) (.slice ba bn bc) bs) := hide ⟨fun j hj => row_first (owns_below HR6.out hxe) (by rw [HX12.out.2.1]; exact hj), HAR.out.below hxe, HBS6.out.below hxe, HT6.out.below hxe⟩
      have hpl : p < w2.heap.size := unhide HLO p (Or.inr (Or.inl rfl))
      have hg2 : w4.heap.size ≤ g2 := (Row.lt HR6.out g2 rfl).1
      have hw24 : w2.heap.size ≤ w4.heap.size := Nat.le_trans hs23 HB4.out.size
      have hw45 : w4.heap.size ≤ w5.heap.size := HU5.out.size
      have hg6 : w5.heap.size ≤ g6 := by have := HG6.out; omega
      have HGP : Hid (GB ≤ p) := hide (by have := HT.out.size; have := HB1.out.size; omega)
      have HBU : Hid (∀ W W', Bk W g2 k g6 (FL.take k) (refV (shaOf bs) (f0 : Int) (bn : Int)) (.slice ba bn bc) bs → Up (fun b => b = p) W W' → Bk W' g2 k g6 (FL.take k) (refV (shaOf bs) (f0 : Int) (bn : Int)) (.slice ba bn bc) bs) := hide (fun W W' h hu => h.up hu (fun _ e => by omega) (fun e => by omega) (fun h0 b hb e => by
        have h1 := isB_lt HBS.out (by have := HBS.out.lenEq; omega) hb
        have h5 := HB1.out.size
        omega) (fun b e => by rw [e]; exact HGP.out))
      have HAl6e := hide (HAl6.out.upT (F := fun _ => False) (Up.of_below hxe) (fun _ _ _ _ _ h => h) (fun _ _ _ _ _ h => h))
      have HD1 := hide hD1
      have HD0 := hide hD0
      have HLA1 := hide hla1
      have HRD1 := hide hrd1
      have HXE := hide hxe
      clear hJ0 hJ1 hJ2 hJ3 hJ4 hJ5 hHeld hba hbb hbc hbe hrb hxa hxb hxc hxd hxe hD1 hD0 hla1 hrd1 hDe hg2 hg6 hw24 hw45 HSW HSA HSB HSM HLI hc1 hc2 hkn hiK hsl
      go_wp2_with fail
      refine (unhide HAL2).mono ?_
      rintro e w8 ⟨v8, us8, rfl, hAl8, hD8, hU8⟩
      obtain ⟨ga8, c8, hv8, hga8⟩ := hAl8.shapeN (by rw [List.length_map, List.length_range]; omega)
      rw [List.length_map, List.length_range] at hv8
      subst hv8
      obtain ⟨ga3, c3, hv3, hga3⟩ := HAl6e.out.shapeN (by rw [List.length_map, List.length_range]; omega)
      rw [List.length_map, List.length_range] at hv3
      subst hv3
      have hAl3 := HAl6e.out.upT hU8 (fun b _ _ hb _ e => by omega) (fun b _ _ hb _ e => by omega)
      have hlen8 : us8.length = n := by rw [hAl8.len, List.length_map, List.length_range]
      have hlen3 : us3.length = n := by rw [hAl3.len, List.length_map, List.length_range]
      have hgd : ∀ (N : Nat → List Int) i, i < n → ((List.range n).map N).getD i [] = N i := fun N i hi => by
        rw [List.getD_eq_getElem?_getD, List.getElem?_map, List.getElem?_range hi]
        rfl
      have HSEC2 : Hid (∀ W, Below w8.heap.size w8 W → ∀ i, i < n → i ∉ FL.take k → ∃ x8 x3, W.cell? ⟨ga8, i, none⟩ = some (.slice (some ⟨x8, 0, none⟩) 512 512) ∧ W.cell? ⟨ga3, i, none⟩ = some (.slice (some ⟨x3, 0, none⟩) 512 512) ∧ Calls Tryd.prog 11 #[.slice (some ⟨x8, 0, none⟩) 512 512, .slice (some ⟨x3, 0, none⟩) 512 512] W fun e w' => e = .returned (.bool true) ∧ w' = W) := hide (fun W hW i hi hnot => by
        have hs8 : IsSec (D1.now i) := (hD8.ok.now (i := i) (by show i < D1.la.length; rw [HLA1.out]; exact hi))
        have hs3 : IsSec (AD.now ⟨IMS, fun _ => [], 0, 0, 0⟩ i) := (HD3.out.ok.now (i := i) (by show i < IMS.length; rw [HNL.out]; exact hi))
        have heq : D1.now i = AD.now ⟨IMS, fun _ => [], 0, 0, 0⟩ i := by
          rw [← HD1.out, putAll_out _ _ (by rw [HX12.out.2.1]; exact Nat.le_refl _) hnot]
          rfl
        obtain ⟨x8, q1, q2⟩ := (hAl8.upT (F := fun _ => False) (Up.of_below hW) (fun _ _ _ _ _ h => h) (fun _ _ _ _ _ h => h)).sec (i := i) (by omega) (by rw [hgd _ i hi]; exact hs8)
        obtain ⟨x3, q3, q4⟩ := (hAl3.upT (F := fun _ => False) (Up.of_below hW) (fun _ _ _ _ _ h => h) (fun _ _ _ _ _ h => h)).sec (i := i) (by omega) (by rw [hgd _ i hi]; exact hs3)
        rw [hgd _ i hi] at q2 q4
        have h9 := same6_calls q2 q4
        rw [decide_eq_true heq] at h9
        exact ⟨x8, x3, q1, q3, h9⟩)
      have hrise : (FL.take k).Pairwise (· < ·) := by
        have h1 := allF_rises HS3.out
        rw [HFS.out] at h1
        exact List.Pairwise.sublist (List.take_sublist _ _) h1
      have HRISE := hide hrise
      have HBK8 := hide (unhide HBU _ _ HBK.out hU8)
      have HD8 := hide hD8
      have HU8 := hide hU8
      obtain ⟨KS, hKS⟩ : ∃ KS, FL.take k = KS := ⟨_, rfl⟩
      rw [hKS] at HSEC2 HRISE HBK8 hin HX12 HBU
      have HKS := hide hKS
      have HIN := hide hin
      clear hAl8 hD8 hU8 hAl3 hlen8 hlen3 hgd hrise HAL2 HAl6 HAl6e HAl3 hin hKS hga8 hga3 HS6 HT6 HR6 HFT6 HF6 HR5 HS5 HD5 HBS6 hw7
      go_wp2_with fail
      go_loopw [16, 17] (fun av iv W => ∃ a i : Nat, av = .int .i64 (a : Int) ∧ iv = .int .i64 (i : Int) ∧ i ≤ n ∧ a ≤ k ∧ Hid (Past KS a i ∧ Below w8.heap.size w8 W)) (fun _ iv _ => n - (intOf iv).toNat)
      case atStart => exact ⟨0, 0, rfl, rfl, by omega, by omega, hide ⟨Past.zero _, Below.refl _ _⟩⟩
      case round =>
        obtain ⟨a, i, rfl, rfl, hin', hak, HL⟩ := hrel
        by_cases hlt : i < n
        · have hltI : (i : Int) < (n : Int) := by omega
          have hi0 : (0 : Int) ≤ (i : Int) := by omega
          have ha0 : (0 : Int) ≤ (a : Int) := by omega
          by_cases hat : a < k
          · have hatI : (a : Int) < (k : Int) := by omega
            have hca := (HBK8.out.below HL.out.2).num a hat
            obtain ⟨y, hy⟩ : ∃ y, KS.getD a 0 = y := ⟨_, rfl⟩
            rw [hy] at hca
            by_cases hyi : y = i
            · have HP := hide (HL.out.1.hit HRISE.out (by rw [HX12.out.2.1]; exact hat) (hy.trans hyi))
              have heq : ((y : Int) == (i : Int)) = true := by simp; omega
              clear hy hyi
              go_wp2
              go_roundw
              case rel => exact ⟨a + 1, i + 1, by go_num, by go_num, by omega, by omega, hide ⟨HP.out, HL.out.2⟩⟩
              case measure => simp [intOf]; omega
            · have HP := hide (HL.out.1.miss HRISE.out (fun h => hyi (hy.symm.trans h.2)))
              have heq : ((y : Int) == (i : Int)) = false := by simp; omega
              obtain ⟨x8, x3, q1, q2, q3⟩ := unhide HSEC2 wr.drew (HL.out.2.trans (Below.refl _ _).drew) i hlt HP.out.2
              have HSAM := hide q3
              clear hy hyi q3
              go_wp2_with fail
              refine wp_region_held_drew (S := fun W => W.cell? ⟨ga8, i, none⟩ = some (.slice (some ⟨x8, 0, none⟩) 512 512) ∧ W.cell? ⟨ga3, i, none⟩ = some (.slice (some ⟨x3, 0, none⟩) 512 512)) (by kernel_rfl) (⟨q1, q2⟩) (fun hHeld => ?_)
              refine wpAnyH_take (i := 0) (v := .slice (some ⟨ga8, 0, none⟩) n c8) rfl (by kernel_rfl) (by kernel_rfl) (by kernel_rfl) (fun _ _ _ h => h) (Or.inl ⟨by rfl, fun w hSw => by obtain ⟨hS1, hS2⟩ := hSw; go_simp⟩) (by assumption) ?_
              simp only [List.getElem_toArray, List.getElem_cons_zero, Act.put, List.setIfInBounds_toArray, List.set_cons_zero, List.set_cons_succ]
              refine wpAnyH_take (i := 1) (v := .int .i64 (i : Int)) rfl (by kernel_rfl) (by kernel_rfl) (by kernel_rfl) (fun _ _ _ h => h) (Or.inl ⟨by rfl, fun w hSw => by obtain ⟨hS1, hS2⟩ := hSw; go_simp⟩) (by assumption) ?_
              simp only [List.getElem_toArray, List.getElem_cons_succ, List.getElem_cons_zero, Act.put, List.setIfInBounds_toArray, List.set_cons_zero, List.set_cons_succ]
              refine wpAnyH_take (i := 2) (v := .pointer (some ⟨ga8, i, none⟩)) rfl (by kernel_rfl) (by kernel_rfl) (by kernel_rfl) (fun _ _ _ h => h) (Or.inl ⟨by rfl, fun w hSw => by obtain ⟨hS1, hS2⟩ := hSw; go_simp⟩) (by assumption) ?_
              simp only [List.getElem_toArray, List.getElem_cons_succ, List.getElem_cons_zero, Act.put, List.setIfInBounds_toArray, List.set_cons_zero, List.set_cons_succ]
              refine wpAnyH_take (i := 3) (v := .slice (some ⟨x8, 0, none⟩) 512 512) rfl (by kernel_rfl) (by kernel_rfl) (by kernel_rfl) (fun _ _ _ h => h) (Or.inl ⟨by rfl, fun w hSw => by obtain ⟨hS1, hS2⟩ := hSw; go_simp⟩) (by assumption) ?_
              simp only [List.getElem_toArray, List.getElem_cons_succ, List.getElem_cons_zero, Act.put, List.setIfInBounds_toArray, List.set_cons_zero, List.set_cons_succ]
              refine wpAnyH_take (i := 4) (v := .slice (some ⟨ga3, 0, none⟩) n c3) rfl (by kernel_rfl) (by kernel_rfl) (by kernel_rfl) (fun _ _ _ h => h) (Or.inl ⟨by rfl, fun w hSw => by obtain ⟨hS1, hS2⟩ := hSw; go_simp⟩) (by assumption) ?_
              simp only [List.getElem_toArray, List.getElem_cons_succ, List.getElem_cons_zero, Act.put, List.setIfInBounds_toArray, List.set_cons_zero, List.set_cons_succ]
              refine wpAnyH_take (i := 5) (v := .int .i64 (i : Int)) rfl (by kernel_rfl) (by kernel_rfl) (by kernel_rfl) (fun _ _ _ h => h) (Or.inl ⟨by rfl, fun w hSw => by obtain ⟨hS1, hS2⟩ := hSw; go_simp⟩) (by assumption) ?_
              simp only [List.getElem_toArray, List.getElem_cons_succ, List.getElem_cons_zero, Act.put, List.setIfInBounds_toArray, List.set_cons_zero, List.set_cons_succ]
              refine wpAnyH_take (i := 6) (v := .pointer (some ⟨ga3, i, none⟩)) rfl (by kernel_rfl) (by kernel_rfl) (by kernel_rfl) (fun _ _ _ h => h) (Or.inl ⟨by rfl, fun w hSw => by obtain ⟨hS1, hS2⟩ := hSw; go_simp⟩) (by assumption) ?_
              simp only [List.getElem_toArray, List.getElem_cons_succ, List.getElem_cons_zero, Act.put, List.setIfInBounds_toArray, List.set_cons_zero, List.set_cons_succ]
              refine wpAnyH_take (i := 7) (v := .slice (some ⟨x3, 0, none⟩) 512 512) rfl (by kernel_rfl) (by kernel_rfl) (by kernel_rfl) (fun _ _ _ h => h) (Or.inl ⟨by rfl, fun w hSw => by obtain ⟨hS1, hS2⟩ := hSw; go_simp⟩) (by assumption) ?_
              simp only [List.getElem_toArray, List.getElem_cons_succ, List.getElem_cons_zero, Act.put, List.setIfInBounds_toArray, List.set_cons_zero, List.set_cons_succ]
              refine wpAnyH_ready (rs := [8]) (by kernel_rfl) (by simp) (AllReadyH.cons rfl (fun K hK => ?_) AllReadyH.nil)
              refine step_call2C (by rfl) 11 same6_enterB (.tmp 151) (.tmp 155) _ rfl rfl rfl (unhide HSAM) ?_
              rintro e wn ⟨rfl, hwn⟩
              obtain rfl := hwn.symm
              clear hwn
              refine ⟨_, rfl, ?_⟩
              refine hK.out _ _ (hHeld) (fun hJ0 => ?_)
              clear hK K
              simp only [List.getElem_toArray, List.getElem_cons_succ, List.getElem_cons_zero, Act.put, List.setIfInBounds_toArray, List.set_cons_zero, List.set_cons_succ]
              refine wpAnyH_take (i := 9) (v := .bool false) rfl (by kernel_rfl) (by kernel_rfl) (by kernel_rfl) (fun _ _ _ h => h) (Or.inl ⟨by rfl, fun w hSw => by obtain ⟨hS1, hS2⟩ := hSw; go_simp⟩) (by assumption) ?_
              simp only [List.getElem_toArray, List.getElem_cons_succ, List.getElem_cons_zero, Act.put, List.setIfInBounds_toArray, List.set_cons_zero, List.set_cons_succ]
              refine wpAnyH_done (by kernel_rfl) ?_ _
              clear hHeld hJ0
              go_wp2
              go_roundw
              case rel => exact ⟨a, i + 1, rfl, by go_num, by omega, by omega, hide ⟨HP.out.1, HL.out.2.trans (Below.refl _ _).drew⟩⟩
              case measure => simp [intOf]; omega
          · have hatI : ¬ (a : Int) < (k : Int) := by omega
            have HP := hide (HL.out.1.miss HRISE.out (fun h => hat (by have := h.1; rw [HX12.out.2.1] at this; exact this)))
            obtain ⟨x8, x3, q1, q2, q3⟩ := unhide HSEC2 wr.drew (HL.out.2.trans (Below.refl _ _).drew) i hlt HP.out.2
            have HSAM := hide q3
            clear q3
            go_wp2_with fail
            refine wp_region_held_drew (S := fun W => W.cell? ⟨ga8, i, none⟩ = some (.slice (some ⟨x8, 0, none⟩) 512 512) ∧ W.cell? ⟨ga3, i, none⟩ = some (.slice (some ⟨x3, 0, none⟩) 512 512)) (by kernel_rfl) (⟨q1, q2⟩) (fun hHeld => ?_)
            refine wpAnyH_take (i := 0) (v := .slice (some ⟨ga8, 0, none⟩) n c8) rfl (by kernel_rfl) (by kernel_rfl) (by kernel_rfl) (fun _ _ _ h => h) (Or.inl ⟨by rfl, fun w hSw => by obtain ⟨hS1, hS2⟩ := hSw; go_simp⟩) (by assumption) ?_
            simp only [List.getElem_toArray, List.getElem_cons_zero, Act.put, List.setIfInBounds_toArray, List.set_cons_zero, List.set_cons_succ]
            refine wpAnyH_take (i := 1) (v := .int .i64 (i : Int)) rfl (by kernel_rfl) (by kernel_rfl) (by kernel_rfl) (fun _ _ _ h => h) (Or.inl ⟨by rfl, fun w hSw => by obtain ⟨hS1, hS2⟩ := hSw; go_simp⟩) (by assumption) ?_
            simp only [List.getElem_toArray, List.getElem_cons_succ, List.getElem_cons_zero, Act.put, List.setIfInBounds_toArray, List.set_cons_zero, List.set_cons_succ]
            refine wpAnyH_take (i := 2) (v := .pointer (some ⟨ga8, i, none⟩)) rfl (by kernel_rfl) (by kernel_rfl) (by kernel_rfl) (fun _ _ _ h => h) (Or.inl ⟨by rfl, fun w hSw => by obtain ⟨hS1, hS2⟩ := hSw; go_simp⟩) (by assumption) ?_
            simp only [List.getElem_toArray, List.getElem_cons_succ, List.getElem_cons_zero, Act.put, List.setIfInBounds_toArray, List.set_cons_zero, List.set_cons_succ]
            refine wpAnyH_take (i := 3) (v := .slice (some ⟨x8, 0, none⟩) 512 512) rfl (by kernel_rfl) (by kernel_rfl) (by kernel_rfl) (fun _ _ _ h => h) (Or.inl ⟨by rfl, fun w hSw => by obtain ⟨hS1, hS2⟩ := hSw; go_simp⟩) (by assumption) ?_
            simp only [List.getElem_toArray, List.getElem_cons_succ, List.getElem_cons_zero, Act.put, List.setIfInBounds_toArray, List.set_cons_zero, List.set_cons_succ]
            refine wpAnyH_take (i := 4) (v := .slice (some ⟨ga3, 0, none⟩) n c3) rfl (by kernel_rfl) (by kernel_rfl) (by kernel_rfl) (fun _ _ _ h => h) (Or.inl ⟨by rfl, fun w hSw => by obtain ⟨hS1, hS2⟩ := hSw; go_simp⟩) (by assumption) ?_
            simp only [List.getElem_toArray, List.getElem_cons_succ, List.getElem_cons_zero, Act.put, List.setIfInBounds_toArray, List.set_cons_zero, List.set_cons_succ]
            refine wpAnyH_take (i := 5) (v := .int .i64 (i : Int)) rfl (by kernel_rfl) (by kernel_rfl) (by kernel_rfl) (fun _ _ _ h => h) (Or.inl ⟨by rfl, fun w hSw => by obtain ⟨hS1, hS2⟩ := hSw; go_simp⟩) (by assumption) ?_
            simp only [List.getElem_toArray, List.getElem_cons_succ, List.getElem_cons_zero, Act.put, List.setIfInBounds_toArray, List.set_cons_zero, List.set_cons_succ]
            refine wpAnyH_take (i := 6) (v := .pointer (some ⟨ga3, i, none⟩)) rfl (by kernel_rfl) (by kernel_rfl) (by kernel_rfl) (fun _ _ _ h => h) (Or.inl ⟨by rfl, fun w hSw => by obtain ⟨hS1, hS2⟩ := hSw; go_simp⟩) (by assumption) ?_
            simp only [List.getElem_toArray, List.getElem_cons_succ, List.getElem_cons_zero, Act.put, List.setIfInBounds_toArray, List.set_cons_zero, List.set_cons_succ]
            refine wpAnyH_take (i := 7) (v := .slice (some ⟨x3, 0, none⟩) 512 512) rfl (by kernel_rfl) (by kernel_rfl) (by kernel_rfl) (fun _ _ _ h => h) (Or.inl ⟨by rfl, fun w hSw => by obtain ⟨hS1, hS2⟩ := hSw; go_simp⟩) (by assumption) ?_
            simp only [List.getElem_toArray, List.getElem_cons_succ, List.getElem_cons_zero, Act.put, List.setIfInBounds_toArray, List.set_cons_zero, List.set_cons_succ]
            refine wpAnyH_ready (rs := [8]) (by kernel_rfl) (by simp) (AllReadyH.cons rfl (fun K hK => ?_) AllReadyH.nil)
            refine step_call2C (by rfl) 11 same6_enterB (.tmp 151) (.tmp 155) _ rfl rfl rfl (unhide HSAM) ?_
            rintro e wn ⟨rfl, hwn⟩
            obtain rfl := hwn.symm
            clear hwn
            refine ⟨_, rfl, ?_⟩
            refine hK.out _ _ (hHeld) (fun hJ0 => ?_)
            clear hK K
            simp only [List.getElem_toArray, List.getElem_cons_succ, List.getElem_cons_zero, Act.put, List.setIfInBounds_toArray, List.set_cons_zero, List.set_cons_succ]
            refine wpAnyH_take (i := 9) (v := .bool false) rfl (by kernel_rfl) (by kernel_rfl) (by kernel_rfl) (fun _ _ _ h => h) (Or.inl ⟨by rfl, fun w hSw => by obtain ⟨hS1, hS2⟩ := hSw; go_simp⟩) (by assumption) ?_
            simp only [List.getElem_toArray, List.getElem_cons_succ, List.getElem_cons_zero, Act.put, List.setIfInBounds_toArray, List.set_cons_zero, List.set_cons_succ]
            refine wpAnyH_done (by kernel_rfl) ?_ _
            clear hHeld hJ0
            go_wp2
            go_roundw
            case rel => exact ⟨a, i + 1, rfl, by go_num, by omega, by omega, hide ⟨HP.out.1, HL.out.2.trans (Below.refl _ _).drew⟩⟩
            case measure => simp [intOf]; omega
        · have hltI : ¬ (i : Int) < (n : Int) := by omega
          have hbw := HL.out.2
          have hBw := HBK8.out.below hbw
          have hc0 := hBw.num 0 (by omega)
          rw [HX12.out.1] at hc0
          have hf0n : 1 ≤ f0 ∧ f0 < n := by rw [← HX12.out.1]; exact unhide HIN _ (getD_mem (by rw [HX12.out.2.1]; omega))
          obtain ⟨h9, hh9, hh1, hh2⟩ : ∃ h9 : Nat, wholeI heap 1 (f0 : Int) = (h9 : Int) ∧ 1 ≤ h9 ∧ h9 ≤ f0 := by
            have h1 := wholeI_in heap (show (1 : Int) ≤ (f0 : Int) by omega)
            exact ⟨(wholeI heap 1 (f0 : Int)).toNat, by omega, by omega, by omega⟩
          have HWH : Hid (∀ W, Calls Tryd.prog 13 #[.int .i64 heap, .int .i64 1, .int .i64 (f0 : Int)] W fun e w' => e = .returned (.int .i64 (h9 : Int)) ∧ w' = W) := hide (fun W => by
            have h1 := whole6_calls heap (show (0 : Int) ≤ 1 by omega) (show (1 : Int) ≤ (f0 : Int) by omega) (by omega) W
            rw [hh9] at h1
            exact h1)
          have hgb : GB ≤ w1.heap.size := Nat.le_trans HT.out.size HB1.out.size
          have hfv : ∀ x, Ft p gl gm V' x → GB ≤ x := fun x hx => by
            rcases unhide HF5 x hx with h1 | h1
            · have h2 := ft_lo HV.out hp hgl hgm x h1; omega
            · have h2 := HB4.out.size; have h3 := HB3.out.size; have h4 := HT.out.size; omega
          have hDw := HD8.out.below hbw
          have hlw : (D1.reads n).la.length = n := HLA1.out
          have hnod : KS.Nodup := by
            have h1 := allF_nodup HS3.out
            rw [HFS.out] at h1
            rw [← HKS.out]
            exact List.Nodup.sublist (List.take_sublist _ _) h1
          have hsec : ∀ t, t < k → (D1.reads n).now (KS.getD t 0) = sectK bs KS t := fun t ht => by
            show D1.now (KS.getD t 0) = _
            rw [← HD1.out, HKS.out]
            exact putAll_in _ bs hnod (by rw [HX12.out.2.1]; exact Nat.le_refl _) ht
          have HGT := hide (get_put (heap := h9) hDw hBw.tt hfv hlw HBS.out.lenEq.symm (by omega) hk HX12.out.2.1 hk1 (fun x hx => by
            have h1 := unhide HIN x hx
            have h2 := iFirst HRISE.out hx
            rw [HX12.out.1] at h2
            omega) hnod (by omega) hh1 HX12.out.1 hsec (by show 0 ≤ D1.rd + (n : Int); rw [HRD1.out]; omega) (by show D1.rd + (n : Int) ≤ _; rw [HRD1.out]; omega))
          have hrng : wr.rangeAt g6 0 (refV (shaOf bs) (f0 : Int) (bn : Int)) := arr_range (ds := []) (by rw [List.append_nil]; exact hBw.ref)
          have hsl := shaOf_len bs
          have hiR := infoRef hsl (f0 : Int) (bn : Int)
          have hund := Tryd.underlying26
          have HBKW := hide hBw
          have HBW := hide hbw
          have HLW := hide hlw
          have HF0N := hide hf0n
          clear hbw hBw hf0n hh9 hgb hfv hDw hlw hnod hsec HSEC2
          go_wp2_with fail
          refine (unhide HWH _).mono ?_
          rintro e w9 ⟨rfl, hw9⟩
          obtain rfl := hw9.symm
          clear hw9 hc0
          go_wp2_with (refine wpList_load_mid rfl 26 (.tmp 11) rfl g6 0 rfl (refV (shaOf bs) (f0 : Int) (bn : Int)) _ hrng hund rfl hiR ?_)
          refine (unhide HGT).mono ?_
          rintro e w10 ⟨xa, xn, xc, m9, rfl, hOx, hDx, hm9, hUx⟩
          -- with a greater heap
          have hBx := unhide HBU _ _ HBKW.out hUx
          have hla10 : ((D1.reads n).reads m9).la.length = n := HLW.out
          obtain ⟨f1, hf1⟩ : ∃ f1 : Nat, (f0 : Int) + 1 = (f1 : Int) := ⟨f0 + 1, by omega⟩
          have hw1f : IntKind.i64.wrap ((f0 : Int) + 1) = (f1 : Int) := by rw [hf1]; exact IntWalk.i64_in _ (by have := HF0N.out; omega)
          have HG2 : Hid (∀ W, Below w10.heap.size w10 W → Calls Tryd.prog 24 #[.pointer (some ⟨p, 0, none⟩), .int .i64 (f1 : Int), .agg (refV (shaOf bs) (f0 : Int) (bn : Int)).toArray] W fun e w' => e = .returned (.tuple #[.slice none 0 0, .int .i64 (f0 : Int), .int .i64 61]) ∧ Below W.heap.size W w') := hide (fun W hW => by
            have hf := HF0N.out
            refine get_61 hsl (fun W2 hW2 => ?_)
            have hD2 := (hDx.below hW).below hW2
            by_cases e : f1 = n
            · exact newReader_none hD2 hsl _ _ (by omega) (by rw [hla10]; exact e) (by rw [hk]; omega)
            · exact newReader_first hD2 hsl _ _ (by omega) (by rw [hla10]; omega) (by rw [hk]; omega) (Or.inl (by omega)))
          have HSX : Hid (∀ W, Below w10.heap.size w10 W → W.cell? ⟨g2, 0, none⟩ = some (.int .i64 (f0 : Int)) ∧ W.rangeAt g6 0 (refV (shaOf bs) (f0 : Int) (bn : Int))) := hide (fun W hW => by
            have h1 := hBx.below hW
            have h2 := h1.num 0 (by omega)
            rw [HX12.out.1] at h2
            exact ⟨h2, arr_range (ds := []) (by rw [List.append_nil]; exact h1.ref)⟩)
          have HEND : Hid (∀ W, Below w10.heap.size w10 W → Calls Tryd.prog 11 #[.slice xa xn xc, .slice ba bn bc] W (fun e w' => e = .returned (.bool true) ∧ w' = W) ∧ Calls Tryd.prog 12 #[] W (fun e w' => e = .returned (.bool true) ∧ Below w.heap.size w w')) := hide (fun W hW => by
            have h1 := hBx.below hW
            have h2 := same6_calls (hOx.isB.below hW) h1.str
            rw [decide_eq_true rfl] at h2
            refine ⟨h2, (started_calls h1.tt).mono ?_⟩
            rintro e w' ⟨rfl, hb⟩
            refine ⟨rfl, ?_⟩
            have y0 := HB1.out.size
            have x6 := HB3.out.trans (HU36.out.below HB3.out.size (fun x hx => by
              rcases hx with rfl | hx
              · have h2 := HS3.out.row_lo.1; omega
              · have h2 := ft_lo HV.out hp hgl hgm x hx; omega))
            have xe := x6.trans (HXE.out.mono x6.size)
            have x8 := xe.trans (HU8.out.below xe.size (fun x e => by rw [e]; omega))
            have xw := x8.trans (HBW.out.mono x8.size)
            have x10 := xw.trans (hUx.below xw.size (fun x e => by rw [e]; omega))
            have xz := x10.trans (hW.mono x10.size)
            exact xz.trans (hb.mono xz.size))
          clear hBx hla10 hOx hDx hm9 hUx HGT HBKW HBW HF0N hf1 hrng HL HBU HBK8
          go_wp2_with fail
          refine wp_region_held_drew (S := fun W => W.cell? ⟨g2, 0, none⟩ = some (.int .i64 (f0 : Int)) ∧ W.rangeAt g6 0 (refV (shaOf bs) (f0 : Int) (bn : Int))) (by kernel_rfl) (unhide HSX _ (Below.refl _ _).drew) (fun hHeld => ?_)
          refine wpAnyH_take (i := 0) (v := .pointer (some ⟨p, 0, none⟩)) rfl (by kernel_rfl) (by kernel_rfl) (by kernel_rfl) (fun _ _ _ h => h) (Or.inl ⟨by rfl, fun w hSw => by obtain ⟨hS1, hS2⟩ := hSw; go_simp⟩) (by assumption) ?_
          simp only [List.getElem_toArray, List.getElem_cons_zero, Act.put, List.setIfInBounds_toArray, List.set_cons_zero, List.set_cons_succ]
          refine wpAnyH_take (i := 1) (v := .slice (some ⟨g2, 0, none⟩) k c2) rfl (by kernel_rfl) (by kernel_rfl) (by kernel_rfl) (fun _ _ _ h => h) (Or.inl ⟨by rfl, fun w hSw => by obtain ⟨hS1, hS2⟩ := hSw; go_simp⟩) (by assumption) ?_
          simp only [List.getElem_toArray, List.getElem_cons_succ, List.getElem_cons_zero, Act.put, List.setIfInBounds_toArray, List.set_cons_zero, List.set_cons_succ]
          refine wpAnyH_take (i := 2) (v := .pointer (some ⟨g2, 0, none⟩)) rfl (by kernel_rfl) (by kernel_rfl) (by kernel_rfl) (fun _ _ _ h => h) (Or.inl ⟨by rfl, fun w hSw => by obtain ⟨hS1, hS2⟩ := hSw; go_simp⟩) (by assumption) ?_
          simp only [List.getElem_toArray, List.getElem_cons_succ, List.getElem_cons_zero, Act.put, List.setIfInBounds_toArray, List.set_cons_zero, List.set_cons_succ]
          refine wpAnyH_take (i := 3) (v := .int .i64 (f0 : Int)) rfl (by kernel_rfl) (by kernel_rfl) (by kernel_rfl) (fun _ _ _ h => h) (Or.inl ⟨by rfl, fun w hSw => by obtain ⟨hS1, hS2⟩ := hSw; go_simp⟩) (by assumption) ?_
          simp only [List.getElem_toArray, List.getElem_cons_succ, List.getElem_cons_zero, Act.put, List.setIfInBounds_toArray, List.set_cons_zero, List.set_cons_succ]
          refine wpAnyH_take (i := 4) (v := .int .i64 (f1 : Int)) rfl (by kernel_rfl) (by kernel_rfl) (by kernel_rfl) (fun _ _ _ h => h) (Or.inl ⟨by rfl, fun w hSw => by obtain ⟨hS1, hS2⟩ := hSw; go_simp⟩) (by assumption) ?_
          simp only [List.getElem_toArray, List.getElem_cons_succ, List.getElem_cons_zero, Act.put, List.setIfInBounds_toArray, List.set_cons_zero, List.set_cons_succ]
          refine wpAnyH_take (i := 5) (v := .agg (refV (shaOf bs) (f0 : Int) (bn : Int)).toArray) rfl (by kernel_rfl) (by kernel_rfl) (by kernel_rfl) (fun _ _ _ h => h) (yieldsIf_load_mid (by rfl) _ _ rfl _ _ rfl _ _ (fun w hSw => hSw.2) hund rfl hiR) (by assumption) ?_
          simp only [List.getElem_toArray, List.getElem_cons_succ, List.getElem_cons_zero, Act.put, List.setIfInBounds_toArray, List.set_cons_zero, List.set_cons_succ]
          refine wpAnyH_ready (rs := [6]) (by kernel_rfl) (by simp) (AllReadyH.cons rfl (fun K hK => ?_) AllReadyH.nil)
          refine step_call3C (by rfl) 24 get6_enter (.tmp 172) (.tmp 176) (.tmp 177) _ rfl rfl rfl rfl (unhide HG2 _ (Below.refl _ _).drew) ?_
          rintro e w11 ⟨rfl, hb11⟩
          have hx11 : Below w10.heap.size w10 w11 := ((Below.refl _ _).drew : Below w10.heap.size w10 w10.drew).trans (hb11.mono (Nat.le_refl _))
          refine ⟨_, rfl, ?_⟩
          refine hK.out _ _ (unhide HSX _ hx11) (fun hJ0 => ?_)
          clear hK K
          simp only [List.getElem_toArray, List.getElem_cons_succ, List.getElem_cons_zero, Act.put, List.setIfInBounds_toArray, List.set_cons_zero, List.set_cons_succ]
          refine wpAnyH_take (i := 7) (v := .tuple #[.slice none 0 0, .int .i64 (f0 : Int), .int .i64 61]) rfl (by kernel_rfl) (by kernel_rfl) (by kernel_rfl) (fun _ _ _ h => h) (Or.inl ⟨by rfl, fun w hSw => by obtain ⟨hS1, hS2⟩ := hSw; go_simp⟩) (by assumption) ?_
          simp only [List.getElem_toArray, List.getElem_cons_succ, List.getElem_cons_zero, Act.put, List.setIfInBounds_toArray, List.set_cons_zero, List.set_cons_succ]
          refine wpAnyH_take (i := 8) (v := .slice none 0 0) rfl (by kernel_rfl) (by kernel_rfl) (by kernel_rfl) (fun _ _ _ h => h) (Or.inl ⟨by rfl, fun w hSw => by obtain ⟨hS1, hS2⟩ := hSw; go_simp⟩) (by assumption) ?_
          simp only [List.getElem_toArray, List.getElem_cons_succ, List.getElem_cons_zero, Act.put, List.setIfInBounds_toArray, List.set_cons_zero, List.set_cons_succ]
          refine wpAnyH_take (i := 9) (v := .int .i64 (f0 : Int)) rfl (by kernel_rfl) (by kernel_rfl) (by kernel_rfl) (fun _ _ _ h => h) (Or.inl ⟨by rfl, fun w hSw => by obtain ⟨hS1, hS2⟩ := hSw; go_simp⟩) (by assumption) ?_
          simp only [List.getElem_toArray, List.getElem_cons_succ, List.getElem_cons_zero, Act.put, List.setIfInBounds_toArray, List.set_cons_zero, List.set_cons_succ]
          refine wpAnyH_take (i := 10) (v := .int .i64 61) rfl (by kernel_rfl) (by kernel_rfl) (by kernel_rfl) (fun _ _ _ h => h) (Or.inl ⟨by rfl, fun w hSw => by obtain ⟨hS1, hS2⟩ := hSw; go_simp⟩) (by assumption) ?_
          simp only [List.getElem_toArray, List.getElem_cons_succ, List.getElem_cons_zero, Act.put, List.setIfInBounds_toArray, List.set_cons_zero, List.set_cons_succ]
          refine wpAnyH_take (i := 11) (v := .slice none 0 0) rfl (by kernel_rfl) (by kernel_rfl) (by kernel_rfl) (fun _ _ _ h => h) (Or.inl ⟨by rfl, fun w hSw => by obtain ⟨hS1, hS2⟩ := hSw; go_simp⟩) (by assumption) ?_
          simp only [List.getElem_toArray, List.getElem_cons_succ, List.getElem_cons_zero, Act.put, List.setIfInBounds_toArray, List.set_cons_zero, List.set_cons_succ]
          refine wpAnyH_take (i := 12) (v := .int .i64 (f0 : Int)) rfl (by kernel_rfl) (by kernel_rfl) (by kernel_rfl) (fun _ _ _ h => h) (Or.inl ⟨by rfl, fun w hSw => by obtain ⟨hS1, hS2⟩ := hSw; go_simp⟩) (by assumption) ?_
          simp only [List.getElem_toArray, List.getElem_cons_succ, List.getElem_cons_zero, Act.put, List.setIfInBounds_toArray, List.set_cons_zero, List.set_cons_succ]
          refine wpAnyH_take (i := 13) (v := .int .i64 61) rfl (by kernel_rfl) (by kernel_rfl) (by kernel_rfl) (fun _ _ _ h => h) (Or.inl ⟨by rfl, fun w hSw => by obtain ⟨hS1, hS2⟩ := hSw; go_simp⟩) (by assumption) ?_
          simp only [List.getElem_toArray, List.getElem_cons_succ, List.getElem_cons_zero, Act.put, List.setIfInBounds_toArray, List.set_cons_zero, List.set_cons_succ]
          refine wpAnyH_done (by kernel_rfl) ?_ _
          obtain ⟨hsm, hst⟩ := unhide HEND _ hx11
          have HSM2 := hide hsm
          have HST2 := hide hst
          have hc11 := (unhide HSX _ hx11).1
          clear hsm hst hHeld hJ0 HEND HSX hb11
          go_wp2_with (first
            | (go_at_call 16; refine (num6_calls _ _).mono ?_; rintro e w12 ⟨rfl, hw12⟩; obtain rfl := hw12.symm; clear hw12)
            | (go_at_call 11; refine (unhide HSM2).mono ?_; rintro e w12 ⟨rfl, hw12⟩; obtain rfl := hw12.symm; clear hw12)
            | (go_at_call 12; refine (unhide HST2).mono ?_; rintro e w13 ⟨rfl, hb13⟩))
          go_ret
          exact ⟨rfl, hb13⟩
end Go.Proofs.YtmgjjopngebecaaDoor
