/- chain's statements: what a base tells of its acts; whether its disk lies as its image. chain's statements: what the document says of a writer ahead. chain's statements: a writer in hand. -/
import Derived.Test.YtdalbalphagmfaaGreatDoorSK
import Derived.Test.YtdalbalphagmfaaGreatDoorSM
namespace Go.Proofs.YtdalbalphagmfaaGreatDoor
open Go.RowKit Go.Maps

set_option maxRecDepth 100000 in
set_option maxHeartbeats 4000000 in
theorem bacts_calls {w : World} {gx p : Nat} {r0 w0 f0 r1 w1 r v : Int} (hx : w.cell? ⟨gx, 0, none⟩ = some (.pointer (some ⟨p, 0, none⟩))) (h2 : w.cell? ⟨p, 2, none⟩ = some (.int .i64 r1)) (h3 : w.cell? ⟨p, 3, none⟩ = some (.int .i64 w1)) (h4 : w.cell? ⟨p, 4, none⟩ = some (.int .i64 f0)) (hr : IntKind.i64.wrap (r0 + r) = r1) (hw : IntKind.i64.wrap (w0 + v) = w1) :
 Calls Tryz.prog 28 #[.pointer (some ⟨gx, 0, none⟩), .agg #[.int .i64 r0, .int .i64 w0, .int .i64 f0], .int .i64 r, .int .i64 v] w fun e w' => e = .returned (.bool true) ∧ Below w.heap.size w w' := by
 obtain ⟨wa, hwa⟩ : ∃ wa, w.alloc (.cells #[.int .i64 r0, .int .i64 w0, .int .i64 f0] 80) = wa := ⟨_, rfl⟩
 have hba : Below w.heap.size w wa := by rw [← hwa]; exact (Below.refl _ _).alloc (Nat.le_refl _) _
 have hA : Arr wa w.heap.size 80 [.int .i64 r0, .int .i64 w0, .int .i64 f0] := by rw [← hwa]; exact Arr.new w _ _
 have HAC := hide (acts_calls (bkeptC hba h2) (bkeptC hba h3) (bkeptC hba h4))
 have hxa := bkeptC hba hx
 have HWA := hide hwa
 have HBA := hide hba
 obtain ⟨S, hS⟩ : ∃ S, w.heap.size = S := ⟨_, rfl⟩
 have HS := hide hS
 rw [hS] at hA ⊢
 clear hx h2 h3 h4 hwa hba hS
 go_enter Tryz.func28, Tryz.ntmps28
 go_wp2_with (rw [HWA.out, HS.out])
 refine (unhide HAC).mono ?_
 rintro e w2 ⟨rfl, hb2⟩
 have hA2 : Arr w2 S 80 [.int .i64 r0, .int .i64 w0, .int .i64 f0] := hA.below hb2
 have hA3 := Arr.new w2 [.int .i64 0, .int .i64 0, .int .i64 0] 80
 have hiA : (Tryz.prog.info? 80).map (·.size) = some [Value.int .i64 r1, .int .i64 w1, .int .i64 f0].length := by kernel_rfl
 have h1A : ∀ u ∈ [Value.int .i64 r1, .int .i64 w1, .int .i64 f0], u.oneCell' = true := by simp [Value.oneCell']
 have HX : Hid (∀ w4, Arr w4 w2.heap.size 80 [.int .i64 r1, .int .i64 w1, .int .i64 f0] → Wrote (w2.alloc (.cells #[.int .i64 0, .int .i64 0, .int .i64 0] 80)) w4 w2.heap.size → Arr w4 S 80 [.int .i64 r0, .int .i64 w0, .int .i64 f0] ∧ Below S w w4) := hide (fun w4 h4 hW => by
  have hb3 : Below w2.heap.size w2 (w2.alloc (.cells #[.int .i64 0, .int .i64 0, .int .i64 0] 80)) := (Below.refl _ _).alloc (Nat.le_refl _) _
  have hlt := hA2.lt
  refine ⟨(hA2.below hb3).wrote hW (by omega), hW.below _ _ ?_ (by omega)⟩
  have h1 := HBA.out
  rw [HS.out] at h1
  have hs1 := h1.size
  rw [HS.out] at hs1
  exact (h1.trans (hb2.mono hs1)).trans (hb3.mono (by omega)))
 clear HAC hb2 hA hxa HWA HBA
 go_wp2_with (refine wpList_storeArr2 (cs' := [Value.int .i64 r1, .int .i64 w1, .int .i64 f0]) rfl (.tmp 9) (.tmp 14) 80 rfl rfl rfl hA3 hiA rfl h1A ?_; intro w4 h4 hW4
              obtain ⟨h5, hb5⟩ := unhide HX w4 h4 hW4
              have c1 := arr_cell h4 (j := 0) rfl
              have c2 := arr_cell h4 (j := 1) rfl
              have c3 := arr_cell h4 (j := 2) rfl
              have c4 := arr_cell h5 (j := 0) rfl
              have c5 := arr_cell h5 (j := 1) rfl
              have c6 := arr_cell h5 (j := 2) rfl
              have HB5 := hide hb5
              clear h4 hW4 h5 hb5 hA3 hA2)
 go_ret
 exact ⟨rfl, HB5.out⟩
set_option maxRecDepth 100000 in
set_option maxHeartbeats 4000000 in
theorem lies_calls {w : World} {gx ga ca n p gl gm B : Nat} {us : List Value} {ims : List (List Int)} {V : Nat → Value} {D : AD} {s r : Value} (hA : Arr w gx 47 [.pointer (some ⟨p, 0, none⟩), s, .slice (some ⟨ga, 0, none⟩) n ca, r]) (hI : Ig w B (.slice (some ⟨ga, 0, none⟩) n ca) us ims) (hnl : ims.length = n) (hD : Dk w p gl gm V D) (hn : D.la.length = n) (hn2 : n ≤ 1000) (hnow : ∀ i, i < n → D.now i = ims.getD i []) (hr0 : 0 ≤ D.rd) (hr1 : D.rd ≤ 1000000) :
 Calls Tryz.prog 8 #[.pointer (some ⟨gx, 0, none⟩)] w fun e w' => e = .returned (.bool true) ∧ Dk w' p gl gm V (D.reads n) ∧ Up (fun b => b = p) w w' := by
 have hca : n ≤ ca ∧ ca ≤ 9223372036854775807 := by
  have hl := hI.len
  rcases hI.own.2 with ⟨hv, _⟩ | ⟨g', cap, cur, hv, _, _, q1, q2, _⟩
  · cases hv
  · injection hv with e1 e2 e3
    subst e3
    exact ⟨by omega, by unfold maxLen at q2; omega⟩
 have HST : Hid (∀ W, Up (fun b => b = p) w W → W.cell? ⟨gx, 0, none⟩ = some (.pointer (some ⟨p, 0, none⟩)) ∧ W.cell? ⟨gx, 2, none⟩ = some (.slice (some ⟨ga, 0, none⟩) n ca) ∧ ∀ j, j < n → ∃ a c, W.cell? ⟨ga, j, none⟩ = some (.slice a 512 c) ∧ IsB W (.slice a 512 c) (ims.getD j [])) := hide (fun W hU => by
  have hty := hD.blk.ty
  have hne : ∀ {b : Nat} {t : TypeId}, Ty w b t → t ≠ 123 → ¬ b = p := fun hb ht e => ht (hb.one (e ▸ hty))
  have hA2 := hA.up hU (hne hA.ty (by decide))
  have hI2 := hI.up hU (fun b hb => by obtain ⟨_, c, m, h2⟩ := row_blk hI.own hb; exact hne ⟨c, m, h2⟩ (by decide)) (fun b hb => hne hb (by decide))
  refine ⟨arr_cell hA2 rfl, arr_cell hA2 rfl, fun j hj => ?_⟩
  obtain ⟨a, c, q1, q2, _⟩ := hI2.at (j := j) (by omega)
  exact ⟨a, c, q1, q2⟩)
 have HRD : Hid (∀ W j, Dk W p gl gm V (D.reads j) → j < n → Calls Tryz.prog 33 #[.pointer (some ⟨p, 0, none⟩), .int .i64 (j : Int)] W fun e w' => ∃ g, e = .returned (.tuple #[.slice (some ⟨g, 0, none⟩) 512 512, .int .i64 0]) ∧ IsB w' (.slice (some ⟨g, 0, none⟩) 512 512) (ims.getD j []) ∧ Dk w' p gl gm V (D.reads (j + 1)) ∧ Up (fun b => b = p) W w') := hide (fun W j hDW hj => by
  refine (read_calls hDW (i := j) (by show j < D.la.length; omega) (by show 0 ≤ D.rd + (j : Int); omega) (by show D.rd + (j : Int) ≤ 1152921504606846976; omega)).mono ?_
  rintro e w' ⟨g, rfl, _, hA9, hD9, hgr⟩
  rw [reads_succ] at hD9
  have e9 : (D.reads j).now j = ims.getD j [] := hnow j hj
  rw [e9] at hA9
  refine ⟨g, rfl, isB_sector hA9 (hI.secs _ ?_), hD9, Up.of_grown hgr (fun _ e => (Option.some.inj e).symm)⟩
  rw [List.getD_eq_getElem?_getD, List.getElem?_eq_getElem (by omega)]
  exact List.getElem_mem _)
 have HNU : Hid (∀ W, Calls Tryz.prog 19 #[.int .i64 0] W fun e w' => e = .returned (.int .i64 0) ∧ w' = W) := hide (fun W => num6_calls 0 W)
 have HD0 : Hid (Dk w p gl gm V (D.reads 0)) := by
  have e : D.reads 0 = D := by simp [AD.reads]
  rw [e]; exact hide hD
 obtain ⟨hca1, hca2⟩ := hca
 clear hA hI hnl hD hn hnow hr0 hr1
 go_enter Tryz.func8, Tryz.ntmps8
 go_wp2_with fail
 go_loopw [3] (fun i wr => ∃ k : Nat, k ≤ n ∧ i = .int .i64 (k : Int) ∧ Hid (Dk wr p gl gm V (D.reads k) ∧ Up (fun b => b = p) w wr)) (fun i _ => n - (intOf i).toNat)
 case atStart => exact ⟨0, by omega, rfl, hide ⟨HD0.out, Up.refl _ _⟩⟩
 case round =>
  clear HD0
  obtain ⟨k, hk, rfl, HL⟩ := hrel
  obtain ⟨c0, c2, hcs⟩ := unhide HST wr HL.out.2
  by_cases hlt : k < n
  · have hkI : (k : Int) < (n : Int) := by omega
    have HRK := hide (unhide HRD wr k HL.out.1 hlt)
    clear hcs
    go_wp2_with fail
    refine (unhide HRK).mono ?_
    rintro e w4 ⟨g, rfl, hX, hD4, hU4⟩
    have hU5 : Up (fun b => b = p) w w4 := HL.out.2.trans hU4 (fun x hx => Or.inl hx)
    obtain ⟨d0, d2, hcs⟩ := unhide HST w4 hU5
    obtain ⟨a, c, hca, hIr⟩ := hcs k hlt
    have HSM : Hid (Calls Tryz.prog 27 #[.slice (some ⟨g, 0, none⟩) 512 512, .slice a 512 c] w4 fun e w' => e = .returned (.bool true) ∧ w' = w4) := hide ((same6_calls hX hIr).mono (fun e w' h => ⟨by rw [h.1, decide_eq_true rfl], h.2⟩))
    have HL4 := hide (And.intro hD4 hU5)
    clear hX hD4 hU4 hU5 hIr HRK HL hcs c0 c2
    go_wp2_with fail
    refine (unhide HNU _).mono ?_
    rintro e wn ⟨rfl, hwn⟩
    obtain rfl := hwn.symm
    clear hwn
    go_wp2_with fail
    refine (unhide HSM).mono ?_
    rintro e wn ⟨rfl, hwn⟩
    obtain rfl := hwn.symm
    clear hwn HSM
    go_wp2
    go_roundw
    case rel => exact ⟨k + 1, by omega, by go_num, HL4⟩
    case measure => simp [intOf]; omega
  · obtain rfl : k = n := by omega
    clear hcs
    go_wp2
    go_ret
    exact ⟨rfl, HL.out.1, HL.out.2⟩
end Go.Proofs.YtdalbalphagmfaaGreatDoor

namespace Go.Proofs.YtdalbalphagmfaaGreatDoor
open Go.RowKit Go.Maps

theorem first_bad {P : Nat → Prop} : ∀ k, (∃ j, j < k ∧ P j) → ∃ j0, j0 < k ∧ P j0 ∧ ∀ i, i < j0 → ¬ P i
 | 0, ⟨j, hj, _⟩ => by omega
 | k + 1, ⟨j, hj, hp⟩ => by
   by_cases h : ∃ j, j < k ∧ P j
   · obtain ⟨j0, h1, h2, h3⟩ := first_bad k h
     exact ⟨j0, by omega, h2, h3⟩
   · have e : j = k := by
      by_cases e : j = k
      · exact e
      · exact absurd ⟨j, by omega, hp⟩ h
     subst e
     exact ⟨j, by omega, hp, fun i hi hpi => h ⟨i, hi, hpi⟩⟩
theorem refusal_long {w : World} (gx : Addr) (n : Nat) (hn : 1048576 < n) : Calls Tryz.prog 29 #[.pointer (some gx), .int .i64 (n : Int)] w fun e w' => e = .returned (.tuple #[.int .i64 2, .slice none 0 0]) ∧ w' = w := by
 have hnI : (1048576 : Int) < (n : Int) := by omega
 go_enter Tryz.func29, Tryz.ntmps29
 go_wp2
 go_ret2
 exact ⟨rfl, rfl⟩
theorem refusal_full {w : World} {gx n B g gb fr to_ : Nat} {bs : List Bool} (hx : w.cell? ⟨gx, 3, none⟩ = some (.pointer (some ⟨g, 0, none⟩))) (h : Rs w B g gb fr to_ bs) (hn : n ≤ 1048576) (hf : ((allR fr bs).length : Int) < secN (n : Int)) :
 Calls Tryz.prog 29 #[.pointer (some ⟨gx, 0, none⟩), .int .i64 (n : Int)] w fun e w' => e = .returned (.tuple #[.int .i64 60, .slice none 0 0]) ∧ Below w.heap.size w w' := by
 have hnI : ¬ (1048576 : Int) < (n : Int) := by omega
 have HC := hide (rcopy_calls h)
 have HTA : Hid (∀ W B2 g2 gb2, Rs W B2 g2 gb2 fr to_ bs → Calls Tryz.prog 30 #[.pointer (some ⟨g2, 0, none⟩), .int .i64 (secN (n : Int))] W fun e w' => e = .returned (.tuple #[.slice none 0 0, .bool false]) ∧ Below W.heap.size W w') := hide (fun W B2 g2 gb2 h2 => rtakeAll_no h2 _ (Or.inr hf))
 clear h hf hn
 go_enter Tryz.func29, Tryz.ntmps29
 go_wp2_with fail
 refine (unhide HC).mono ?_
 rintro e w1 ⟨g2, gb2, rfl, hR, hg2, hb1⟩
 have HT1 := hide (unhide HTA w1 _ g2 gb2 hR)
 have HB1 := hide hb1
 clear HC HTA hR hg2 hb1
 go_wp2_with fail
 refine (refSectors_calls _ _).mono ?_
 rintro e wn ⟨rfl, hwn⟩
 obtain rfl := hwn.symm
 clear hwn
 go_wp2_with fail
 refine (unhide HT1).mono ?_
 rintro e w2 ⟨rfl, hb2⟩
 have HB2 := hide hb2
 clear hb2 HT1
 go_wp2
 go_ret2
 exact ⟨rfl, HB1.out.trans (HB2.out.mono HB1.out.size)⟩
set_option maxRecDepth 100000 in
set_option maxHeartbeats 8000000 in
theorem refusal_takes {w : World} {gx n B g gb fr to_ k N ga ca : Nat} {bs : List Bool} (hx : w.cell? ⟨gx, 3, none⟩ = some (.pointer (some ⟨g, 0, none⟩))) (hx2 : w.cell? ⟨gx, 2, none⟩ = some (.slice (some ⟨ga, 0, none⟩) N ca)) (h : Rs w B g gb fr to_ bs) (hn : n ≤ 1048576) (hk : secN (n : Int) = (k : Int)) (hk1 : 1 ≤ k) (hk9 : k ≤ 2185) (hf : k ≤ (allR fr bs).length) {ks : List Nat} (hks : ks = (allR fr bs).take k) (j0 : Nat) (hj0 : j0 ≤ k) (hgood : ∀ j, j < j0 → 1 ≤ ks.getD j 0 ∧ ks.getD j 0 < N) (hbad : j0 < k → ks.getD j0 0 = 0 ∨ N ≤ ks.getD j0 0) :
 Calls Tryz.prog 29 #[.pointer (some ⟨gx, 0, none⟩), .int .i64 (n : Int)] w fun e w' => Below w.heap.size w w' ∧ (j0 < k → e = .returned (.tuple #[.int .i64 31, .slice none 0 0])) ∧ (j0 = k → ∃ gK cK, e = .returned (.tuple #[.int .i64 0, .slice (some ⟨gK, 0, none⟩) k cK]) ∧ Row w' w.heap.size 3 (.slice (some ⟨gK, 0, none⟩) k cK) (iV ks)) := by
 have hnI : ¬ (1048576 : Int) < (n : Int) := by omega
 have HC := hide (rcopy_calls h)
 have hkl : ks.length = k := by rw [hks, List.length_take]; omega
 have HTA : Hid (∀ W B2 g2 gb2, w.heap.size ≤ B2 → Below w.heap.size w W → B2 ≤ W.heap.size → Rs W B2 g2 gb2 fr to_ bs → Calls Tryz.prog 30 #[.pointer (some ⟨g2, 0, none⟩), .int .i64 (k : Int)] W fun e w' => ∃ gK cK, e = .returned (.tuple #[.slice (some ⟨gK, 0, none⟩) k cK, .bool true]) ∧ Row w' w.heap.size 3 (.slice (some ⟨gK, 0, none⟩) k cK) (iV ks) ∧ Below w.heap.size w w' ∧ k ≤ cK ∧ cK ≤ 9223372036854775807) := hide (fun W B2 g2 gb2 hB2 hbW hB3 h2 => by
  refine (rtakeAll_calls h2 k hf).mono ?_
  rintro e w' ⟨v, rfl, hr, _, hg⟩
  rw [← hks] at hr
  have hgb := h2.row_lo.1
  have hb' : Below w.heap.size w w' := hbW.grown hg hbW.size (fun q hq => by injection hq with hq; omega)
  have hr2 : Row w' w.heap.size 3 v (iV ks) := Row.mono hr (by omega)
  rcases hr2.2 with ⟨_, h1⟩ | ⟨gK, cK, cur, hv, _, _, q1, q2, _⟩
  · rw [iV_len] at h1; omega
  · rw [iV_len, hkl] at hv q1
    subst hv
    exact ⟨gK, cK, rfl, hr2, hb', by omega, by unfold maxLen at q2; omega⟩)
 have HSN : Hid (∀ W, Calls Tryz.prog 60 #[.int .i64 (n : Int)] W fun e w' => e = .returned (.int .i64 (k : Int)) ∧ w' = W) := hide (fun W => by rw [← hk]; exact refSectors_calls (n : Int) W)
 have HX2 : Hid (∀ W, Below w.heap.size w W → W.cell? ⟨gx, 2, none⟩ = some (.slice (some ⟨ga, 0, none⟩) N ca)) := hide (fun W hW => bkeptC hW hx2)
 have HGO := hide hgood
 have HBA := hide hbad
 have HKL := hide hkl
 clear h hf hn hk hks hgood hbad hkl hx2
 go_enter Tryz.func29, Tryz.ntmps29
 go_wp2_with fail
 refine (unhide HC).mono ?_
 rintro e w1 ⟨g2, gb2, rfl, hR, hg2, hb1⟩
 have HT1 := hide (unhide HTA w1 _ g2 gb2 (Nat.le_refl _) hb1 hb1.size hR)
 clear HC HTA hR hg2 hb1
 go_wp2_with fail
 refine (unhide HSN _).mono ?_
 rintro e wn ⟨rfl, hwn⟩
 obtain rfl := hwn.symm
 clear hwn HSN
 go_wp2_with fail
 refine (unhide HT1).mono ?_
 rintro e w2 ⟨gK, cK, rfl, hr2, hb2, hcK1, hcK2⟩
 have HR2 := hide hr2
 have HB2 := hide hb2
 clear hr2 hb2 HT1
 go_wp2_with fail
 go_loopw [9] (fun iv W => ∃ i : Nat, i ≤ j0 ∧ iv = .int .i64 (i : Int) ∧ Hid (Row W w.heap.size 3 (.slice (some ⟨gK, 0, none⟩) k cK) (iV ks) ∧ Below w.heap.size w W)) (fun iv _ => k - (intOf iv).toNat)
 case atStart => exact ⟨0, by omega, rfl, hide ⟨HR2.out, HB2.out⟩⟩
 case round =>
  clear HR2 HB2
  obtain ⟨i, hi, rfl, HI⟩ := hrel
  by_cases hlt : i < k
  · have hltI : (i : Int) < (k : Int) := by omega
    obtain ⟨y, hy⟩ : ∃ y, ks.getD i 0 = y := ⟨_, rfl⟩
    have hcy : wr.cell? ⟨gK, i, none⟩ = some (.int .i64 (y : Int)) := by
     rw [HI.out.1.cellAt (by rw [iV_len, HKL.out]; exact hlt), ← hy]
     exact iV_at (by rw [HKL.out]; exact hlt)
    have hx2 := unhide HX2 wr HI.out.2
    have HS : Hid (∀ W, Below wr.heap.size wr W → W.cell? ⟨gK, i, none⟩ = some (.int .i64 (y : Int)) ∧ W.cell? ⟨gx, 2, none⟩ = some (.slice (some ⟨ga, 0, none⟩) N ca)) := hide (fun W hW => ⟨bkeptC hW hcy, bkeptC hW hx2⟩)
    have HE : Hid (Row wr.drew w.heap.size 3 (.slice (some ⟨gK, 0, none⟩) k cK) (iV ks) ∧ Below w.heap.size w wr.drew) := hide ⟨owns_up HI.out.1 (Up.of_below (F := fun _ => False) (Below.refl _ _).drew) (fun _ _ h => h), HI.out.2.drew⟩
    by_cases hb : i < j0
    · have hg := unhide HGO i hb
      rw [hy] at hg
      have hy0 : ¬ (y : Int) = 0 := by omega
      have hyN : ¬ (N : Int) ≤ (y : Int) := by omega
      have hyN2 : y < N := by omega
      have hy00 : ¬ y = 0 := by omega
      clear hy hg HGO HBA HX2 HI hcy hx2
      go_wp2_with fail
      refine wp_region_held_drew (S := fun W => W.cell? ⟨gK, i, none⟩ = some (.int .i64 ((y : Int) : Int)) ∧ W.cell? ⟨gx, 2, none⟩ = some (.slice (some ⟨ga, 0, none⟩) N ca)) (by kernel_rfl) (unhide HS _ (Below.refl _ _).drew) (fun hHeld => ?_)
      refine wpAnyH_take (i := 0) (v := .slice (some ⟨gK, 0, none⟩) k cK) rfl (by kernel_rfl) (by kernel_rfl) (by kernel_rfl) (fun _ _ _ h => h) (Or.inl ⟨by rfl, fun w hSw => by obtain ⟨hS1, hS2⟩ := hSw; go_simp⟩) (by assumption) ?_
      simp only [fGa, fGz, Act.put, fSa, fSz, fSs]
      refine wpAnyH_take (i := 1) (v := .int .i64 (i : Int)) rfl (by kernel_rfl) (by kernel_rfl) (by kernel_rfl) (fun _ _ _ h => h) (Or.inl ⟨by rfl, fun w hSw => by obtain ⟨hS1, hS2⟩ := hSw; go_simp⟩) (by assumption) ?_
      simp only [fGa, fGs, fGz, Act.put, fSa, fSz, fSs]
      refine wpAnyH_take (i := 2) (v := .pointer (some ⟨gK, i, none⟩)) rfl (by kernel_rfl) (by kernel_rfl) (by kernel_rfl) (fun _ _ _ h => h) (Or.inl ⟨by rfl, fun w hSw => by obtain ⟨hS1, hS2⟩ := hSw; go_simp⟩) (by assumption) ?_
      simp only [fGa, fGs, fGz, Act.put, fSa, fSz, fSs]
      refine wpAnyH_take (i := 3) (v := .int .i64 (y : Int)) rfl (by kernel_rfl) (by kernel_rfl) (by kernel_rfl) (fun _ _ _ h => h) (Or.inl ⟨by rfl, fun w hSw => by obtain ⟨hS1, hS2⟩ := hSw; go_simp⟩) (by assumption) ?_
      simp only [fGa, fGs, fGz, Act.put, fSa, fSz, fSs]
      refine wpAnyH_take (i := 4) (v := .bool false) rfl (by kernel_rfl) (by kernel_rfl) (by kernel_rfl) (fun _ _ _ h => h) (Or.inl ⟨by rfl, fun w hSw => by obtain ⟨hS1, hS2⟩ := hSw; go_simp⟩) (by assumption) ?_
      simp only [fGa, fGs, fGz, Act.put, fSa, fSz, fSs]
      refine wpAnyH_take (i := 5) (v := .bool false) rfl (by kernel_rfl) (by kernel_rfl) (by kernel_rfl) (fun _ _ _ h => h) (Or.inl ⟨by rfl, fun w hSw => by obtain ⟨hS1, hS2⟩ := hSw; go_simp⟩) (by assumption) ?_
      simp only [fGa, fGs, fGz, Act.put, fSa, fSz, fSs]
      refine wpAnyH_take (i := 6) (v := .slice (some ⟨gK, 0, none⟩) k cK) rfl (by kernel_rfl) (by kernel_rfl) (by kernel_rfl) (fun _ _ _ h => h) (Or.inl ⟨by rfl, fun w hSw => by obtain ⟨hS1, hS2⟩ := hSw; go_simp⟩) (by assumption) ?_
      simp only [fGa, fGs, fGz, Act.put, fSa, fSz, fSs]
      refine wpAnyH_take (i := 7) (v := .int .i64 (i : Int)) rfl (by kernel_rfl) (by kernel_rfl) (by kernel_rfl) (fun _ _ _ h => h) (Or.inl ⟨by rfl, fun w hSw => by obtain ⟨hS1, hS2⟩ := hSw; go_simp⟩) (by assumption) ?_
      simp only [fGa, fGs, fGz, Act.put, fSa, fSz, fSs]
      refine wpAnyH_take (i := 8) (v := .pointer (some ⟨gK, i, none⟩)) rfl (by kernel_rfl) (by kernel_rfl) (by kernel_rfl) (fun _ _ _ h => h) (Or.inl ⟨by rfl, fun w hSw => by obtain ⟨hS1, hS2⟩ := hSw; go_simp⟩) (by assumption) ?_
      simp only [fGa, fGs, fGz, Act.put, fSa, fSz, fSs]
      refine wpAnyH_take (i := 9) (v := .int .i64 (y : Int)) rfl (by kernel_rfl) (by kernel_rfl) (by kernel_rfl) (fun _ _ _ h => h) (Or.inl ⟨by rfl, fun w hSw => by obtain ⟨hS1, hS2⟩ := hSw; go_simp⟩) (by assumption) ?_
      simp only [fGa, fGs, fGz, Act.put, fSa, fSz, fSs]
      refine wpAnyH_take (i := 10) (v := .pointer (some ⟨gx, 0, none⟩)) rfl (by kernel_rfl) (by kernel_rfl) (by kernel_rfl) (fun _ _ _ h => h) (Or.inl ⟨by rfl, fun w hSw => by obtain ⟨hS1, hS2⟩ := hSw; go_simp⟩) (by assumption) ?_
      simp only [fGa, fGs, fGz, Act.put, fSa, fSz, fSs]
      refine wpAnyH_take (i := 11) (v := .pointer (some ⟨gx, 0, none⟩)) rfl (by kernel_rfl) (by kernel_rfl) (by kernel_rfl) (fun _ _ _ h => h) (Or.inl ⟨by rfl, fun w hSw => by obtain ⟨hS1, hS2⟩ := hSw; go_simp⟩) (by assumption) ?_
      simp only [fGa, fGs, fGz, Act.put, fSa, fSz, fSs]
      refine wpAnyH_take (i := 12) (v := .pointer (some ⟨gx, 2, none⟩)) rfl (by kernel_rfl) (by kernel_rfl) (by kernel_rfl) (fun _ _ _ h => h) (Or.inl ⟨by rfl, fun w hSw => by obtain ⟨hS1, hS2⟩ := hSw; go_simp⟩) (by assumption) ?_
      simp only [fGa, fGs, fGz, Act.put, fSa, fSz, fSs]
      refine wpAnyH_take (i := 13) (v := .slice (some ⟨ga, 0, none⟩) N ca) rfl (by kernel_rfl) (by kernel_rfl) (by kernel_rfl) (fun _ _ _ h => h) (Or.inl ⟨by rfl, fun w hSw => by obtain ⟨hS1, hS2⟩ := hSw; go_simp⟩) (by assumption) ?_
      simp only [fGa, fGs, fGz, Act.put, fSa, fSz, fSs]
      refine wpAnyH_take (i := 14) (v := .int .i64 (N : Int)) rfl (by kernel_rfl) (by kernel_rfl) (by kernel_rfl) (fun _ _ _ h => h) (Or.inl ⟨by rfl, fun w hSw => by obtain ⟨hS1, hS2⟩ := hSw; go_simp⟩) (by assumption) ?_
      simp only [fGa, fGs, fGz, Act.put, fSa, fSz, fSs]
      refine wpAnyH_take (i := 15) (v := .bool false) rfl (by kernel_rfl) (by kernel_rfl) (by kernel_rfl) (fun _ _ _ h => h) (Or.inl ⟨by rfl, fun w hSw => by obtain ⟨hS1, hS2⟩ := hSw; go_simp⟩) (by assumption) ?_
      simp only [fGa, fGs, fGz, Act.put, fSa, fSz, fSs]
      refine wpAnyH_take (i := 16) (v := .bool false) rfl (by kernel_rfl) (by kernel_rfl) (by kernel_rfl) (fun _ _ _ h => h) (Or.inl ⟨by rfl, fun w hSw => by obtain ⟨hS1, hS2⟩ := hSw; go_simp⟩) (by assumption) ?_
      simp only [fGa, fGs, fGz, Act.put, fSa, fSz, fSs]
      refine wpAnyH_done (by kernel_rfl) ?_ _
      go_wp2
      go_roundw
      case rel => exact ⟨i + 1, by omega, by go_num, HE⟩
      case measure => simp [intOf]; omega
    · obtain rfl : i = j0 := by omega
      have hbd := HBA.out hlt
      rw [hy] at hbd
      by_cases hy0 : y = 0
      · subst hy0
        clear hy hbd HGO HBA HX2 HI hcy hx2
        go_wp2_with fail
        refine wp_region_held_drew (S := fun W => W.cell? ⟨gK, i, none⟩ = some (.int .i64 (0 : Int)) ∧ W.cell? ⟨gx, 2, none⟩ = some (.slice (some ⟨ga, 0, none⟩) N ca)) (by kernel_rfl) (unhide HS _ (Below.refl _ _).drew) (fun hHeld => ?_)
        refine wpAnyH_take (i := 0) (v := .slice (some ⟨gK, 0, none⟩) k cK) rfl (by kernel_rfl) (by kernel_rfl) (by kernel_rfl) (fun _ _ _ h => h) (Or.inl ⟨by rfl, fun w hSw => by obtain ⟨hS1, hS2⟩ := hSw; go_simp⟩) (by assumption) ?_
        simp only [fGa, fGz, Act.put, fSa, fSz, fSs]
        refine wpAnyH_take (i := 1) (v := .int .i64 (i : Int)) rfl (by kernel_rfl) (by kernel_rfl) (by kernel_rfl) (fun _ _ _ h => h) (Or.inl ⟨by rfl, fun w hSw => by obtain ⟨hS1, hS2⟩ := hSw; go_simp⟩) (by assumption) ?_
        simp only [fGa, fGs, fGz, Act.put, fSa, fSz, fSs]
        refine wpAnyH_take (i := 2) (v := .pointer (some ⟨gK, i, none⟩)) rfl (by kernel_rfl) (by kernel_rfl) (by kernel_rfl) (fun _ _ _ h => h) (Or.inl ⟨by rfl, fun w hSw => by obtain ⟨hS1, hS2⟩ := hSw; go_simp⟩) (by assumption) ?_
        simp only [fGa, fGs, fGz, Act.put, fSa, fSz, fSs]
        refine wpAnyH_take (i := 3) (v := .int .i64 0) rfl (by kernel_rfl) (by kernel_rfl) (by kernel_rfl) (fun _ _ _ h => h) (Or.inl ⟨by rfl, fun w hSw => by obtain ⟨hS1, hS2⟩ := hSw; go_simp⟩) (by assumption) ?_
        simp only [fGa, fGs, fGz, Act.put, fSa, fSz, fSs]
        refine wpAnyH_take (i := 4) (v := .bool true) rfl (by kernel_rfl) (by kernel_rfl) (by kernel_rfl) (fun _ _ _ h => h) (Or.inl ⟨by rfl, fun w hSw => by obtain ⟨hS1, hS2⟩ := hSw; go_simp⟩) (by assumption) ?_
        simp only [fGa, fGs, fGz, Act.put, fSa, fSz, fSs]
        refine wpAnyH_take (i := 5) (v := .bool true) rfl (by kernel_rfl) (by kernel_rfl) (by kernel_rfl) (fun _ _ _ h => h) (Or.inl ⟨by rfl, fun w hSw => by obtain ⟨hS1, hS2⟩ := hSw; go_simp⟩) (by assumption) ?_
        simp only [fGa, fGs, fGz, Act.put, fSa, fSz, fSs]
        refine wpAnyH_take (i := 6) (v := undef) rfl (by kernel_rfl) (by kernel_rfl) (by kernel_rfl) (fun _ _ _ h => h) (Or.inr ⟨by rfl, rfl⟩) (by assumption) ?_
        simp only [fGa, fGs, fGz, Act.put, fSa, fSz, fSs]
        refine wpAnyH_take (i := 7) (v := undef) rfl (by kernel_rfl) (by kernel_rfl) (by kernel_rfl) (fun _ _ _ h => h) (Or.inr ⟨by rfl, rfl⟩) (by assumption) ?_
        simp only [fGa, fGs, fGz, Act.put, fSa, fSz, fSs]
        refine wpAnyH_take (i := 8) (v := undef) rfl (by kernel_rfl) (by kernel_rfl) (by kernel_rfl) (fun _ _ _ h => h) (Or.inr ⟨by rfl, rfl⟩) (by assumption) ?_
        simp only [fGa, fGs, fGz, Act.put, fSa, fSz, fSs]
        refine wpAnyH_take (i := 9) (v := undef) rfl (by kernel_rfl) (by kernel_rfl) (by kernel_rfl) (fun _ _ _ h => h) (Or.inr ⟨by rfl, rfl⟩) (by assumption) ?_
        simp only [fGa, fGs, fGz, Act.put, fSa, fSz, fSs]
        refine wpAnyH_take (i := 10) (v := undef) rfl (by kernel_rfl) (by kernel_rfl) (by kernel_rfl) (fun _ _ _ h => h) (Or.inr ⟨by rfl, rfl⟩) (by assumption) ?_
        simp only [fGa, fGs, fGz, Act.put, fSa, fSz, fSs]
        refine wpAnyH_take (i := 11) (v := undef) rfl (by kernel_rfl) (by kernel_rfl) (by kernel_rfl) (fun _ _ _ h => h) (Or.inr ⟨by rfl, rfl⟩) (by assumption) ?_
        simp only [fGa, fGs, fGz, Act.put, fSa, fSz, fSs]
        refine wpAnyH_take (i := 12) (v := undef) rfl (by kernel_rfl) (by kernel_rfl) (by kernel_rfl) (fun _ _ _ h => h) (Or.inr ⟨by rfl, rfl⟩) (by assumption) ?_
        simp only [fGa, fGs, fGz, Act.put, fSa, fSz, fSs]
        refine wpAnyH_take (i := 13) (v := undef) rfl (by kernel_rfl) (by kernel_rfl) (by kernel_rfl) (fun _ _ _ h => h) (Or.inr ⟨by rfl, rfl⟩) (by assumption) ?_
        simp only [fGa, fGs, fGz, Act.put, fSa, fSz, fSs]
        refine wpAnyH_take (i := 14) (v := undef) rfl (by kernel_rfl) (by kernel_rfl) (by kernel_rfl) (fun _ _ _ h => h) (Or.inr ⟨by rfl, rfl⟩) (by assumption) ?_
        simp only [fGa, fGs, fGz, Act.put, fSa, fSz, fSs]
        refine wpAnyH_take (i := 15) (v := undef) rfl (by kernel_rfl) (by kernel_rfl) (by kernel_rfl) (fun _ _ _ h => h) (Or.inr ⟨by rfl, rfl⟩) (by assumption) ?_
        simp only [fGa, fGs, fGz, Act.put, fSa, fSz, fSs]
        refine wpAnyH_take (i := 16) (v := .bool true) rfl (by kernel_rfl) (by kernel_rfl) (by kernel_rfl) (fun _ _ _ h => h) (Or.inl ⟨by rfl, fun w hSw => by obtain ⟨hS1, hS2⟩ := hSw; go_simp⟩) (by assumption) ?_
        simp only [fGa, fGs, fGz, Act.put, fSa, fSz, fSs]
        refine wpAnyH_done (by kernel_rfl) ?_ _
        go_wp2
        go_ret2
        exact ⟨HE.out.2, fun _ => rfl, fun h => by omega⟩
      · have hyN : (N : Int) ≤ (y : Int) := by omega
        have hy0I : ¬ (y : Int) = 0 := by omega
        clear hy hbd HGO HBA HX2 HI hcy hx2
        go_wp2_with fail
        refine wp_region_held_drew (S := fun W => W.cell? ⟨gK, i, none⟩ = some (.int .i64 ((y : Int) : Int)) ∧ W.cell? ⟨gx, 2, none⟩ = some (.slice (some ⟨ga, 0, none⟩) N ca)) (by kernel_rfl) (unhide HS _ (Below.refl _ _).drew) (fun hHeld => ?_)
        refine wpAnyH_take (i := 0) (v := .slice (some ⟨gK, 0, none⟩) k cK) rfl (by kernel_rfl) (by kernel_rfl) (by kernel_rfl) (fun _ _ _ h => h) (Or.inl ⟨by rfl, fun w hSw => by obtain ⟨hS1, hS2⟩ := hSw; go_simp⟩) (by assumption) ?_
        simp only [fGa, fGz, Act.put, fSa, fSz, fSs]
        refine wpAnyH_take (i := 1) (v := .int .i64 (i : Int)) rfl (by kernel_rfl) (by kernel_rfl) (by kernel_rfl) (fun _ _ _ h => h) (Or.inl ⟨by rfl, fun w hSw => by obtain ⟨hS1, hS2⟩ := hSw; go_simp⟩) (by assumption) ?_
        simp only [fGa, fGs, fGz, Act.put, fSa, fSz, fSs]
        refine wpAnyH_take (i := 2) (v := .pointer (some ⟨gK, i, none⟩)) rfl (by kernel_rfl) (by kernel_rfl) (by kernel_rfl) (fun _ _ _ h => h) (Or.inl ⟨by rfl, fun w hSw => by obtain ⟨hS1, hS2⟩ := hSw; go_simp⟩) (by assumption) ?_
        simp only [fGa, fGs, fGz, Act.put, fSa, fSz, fSs]
        refine wpAnyH_take (i := 3) (v := .int .i64 (y : Int)) rfl (by kernel_rfl) (by kernel_rfl) (by kernel_rfl) (fun _ _ _ h => h) (Or.inl ⟨by rfl, fun w hSw => by obtain ⟨hS1, hS2⟩ := hSw; go_simp⟩) (by assumption) ?_
        simp only [fGa, fGs, fGz, Act.put, fSa, fSz, fSs]
        refine wpAnyH_take (i := 4) (v := .bool false) rfl (by kernel_rfl) (by kernel_rfl) (by kernel_rfl) (fun _ _ _ h => h) (Or.inl ⟨by rfl, fun w hSw => by obtain ⟨hS1, hS2⟩ := hSw; go_simp⟩) (by assumption) ?_
        simp only [fGa, fGs, fGz, Act.put, fSa, fSz, fSs]
        refine wpAnyH_take (i := 5) (v := .bool false) rfl (by kernel_rfl) (by kernel_rfl) (by kernel_rfl) (fun _ _ _ h => h) (Or.inl ⟨by rfl, fun w hSw => by obtain ⟨hS1, hS2⟩ := hSw; go_simp⟩) (by assumption) ?_
        simp only [fGa, fGs, fGz, Act.put, fSa, fSz, fSs]
        refine wpAnyH_take (i := 6) (v := .slice (some ⟨gK, 0, none⟩) k cK) rfl (by kernel_rfl) (by kernel_rfl) (by kernel_rfl) (fun _ _ _ h => h) (Or.inl ⟨by rfl, fun w hSw => by obtain ⟨hS1, hS2⟩ := hSw; go_simp⟩) (by assumption) ?_
        simp only [fGa, fGs, fGz, Act.put, fSa, fSz, fSs]
        refine wpAnyH_take (i := 7) (v := .int .i64 (i : Int)) rfl (by kernel_rfl) (by kernel_rfl) (by kernel_rfl) (fun _ _ _ h => h) (Or.inl ⟨by rfl, fun w hSw => by obtain ⟨hS1, hS2⟩ := hSw; go_simp⟩) (by assumption) ?_
        simp only [fGa, fGs, fGz, Act.put, fSa, fSz, fSs]
        refine wpAnyH_take (i := 8) (v := .pointer (some ⟨gK, i, none⟩)) rfl (by kernel_rfl) (by kernel_rfl) (by kernel_rfl) (fun _ _ _ h => h) (Or.inl ⟨by rfl, fun w hSw => by obtain ⟨hS1, hS2⟩ := hSw; go_simp⟩) (by assumption) ?_
        simp only [fGa, fGs, fGz, Act.put, fSa, fSz, fSs]
        refine wpAnyH_take (i := 9) (v := .int .i64 (y : Int)) rfl (by kernel_rfl) (by kernel_rfl) (by kernel_rfl) (fun _ _ _ h => h) (Or.inl ⟨by rfl, fun w hSw => by obtain ⟨hS1, hS2⟩ := hSw; go_simp⟩) (by assumption) ?_
        simp only [fGa, fGs, fGz, Act.put, fSa, fSz, fSs]
        refine wpAnyH_take (i := 10) (v := .pointer (some ⟨gx, 0, none⟩)) rfl (by kernel_rfl) (by kernel_rfl) (by kernel_rfl) (fun _ _ _ h => h) (Or.inl ⟨by rfl, fun w hSw => by obtain ⟨hS1, hS2⟩ := hSw; go_simp⟩) (by assumption) ?_
        simp only [fGa, fGs, fGz, Act.put, fSa, fSz, fSs]
        refine wpAnyH_take (i := 11) (v := .pointer (some ⟨gx, 0, none⟩)) rfl (by kernel_rfl) (by kernel_rfl) (by kernel_rfl) (fun _ _ _ h => h) (Or.inl ⟨by rfl, fun w hSw => by obtain ⟨hS1, hS2⟩ := hSw; go_simp⟩) (by assumption) ?_
        simp only [fGa, fGs, fGz, Act.put, fSa, fSz, fSs]
        refine wpAnyH_take (i := 12) (v := .pointer (some ⟨gx, 2, none⟩)) rfl (by kernel_rfl) (by kernel_rfl) (by kernel_rfl) (fun _ _ _ h => h) (Or.inl ⟨by rfl, fun w hSw => by obtain ⟨hS1, hS2⟩ := hSw; go_simp⟩) (by assumption) ?_
        simp only [fGa, fGs, fGz, Act.put, fSa, fSz, fSs]
        refine wpAnyH_take (i := 13) (v := .slice (some ⟨ga, 0, none⟩) N ca) rfl (by kernel_rfl) (by kernel_rfl) (by kernel_rfl) (fun _ _ _ h => h) (Or.inl ⟨by rfl, fun w hSw => by obtain ⟨hS1, hS2⟩ := hSw; go_simp⟩) (by assumption) ?_
        simp only [fGa, fGs, fGz, Act.put, fSa, fSz, fSs]
        refine wpAnyH_take (i := 14) (v := .int .i64 (N : Int)) rfl (by kernel_rfl) (by kernel_rfl) (by kernel_rfl) (fun _ _ _ h => h) (Or.inl ⟨by rfl, fun w hSw => by obtain ⟨hS1, hS2⟩ := hSw; go_simp⟩) (by assumption) ?_
        simp only [fGa, fGs, fGz, Act.put, fSa, fSz, fSs]
        refine wpAnyH_take (i := 15) (v := .bool true) rfl (by kernel_rfl) (by kernel_rfl) (by kernel_rfl) (fun _ _ _ h => h) (Or.inl ⟨by rfl, fun w hSw => by obtain ⟨hS1, hS2⟩ := hSw; go_simp⟩) (by assumption) ?_
        simp only [fGa, fGs, fGz, Act.put, fSa, fSz, fSs]
        refine wpAnyH_take (i := 16) (v := .bool true) rfl (by kernel_rfl) (by kernel_rfl) (by kernel_rfl) (fun _ _ _ h => h) (Or.inl ⟨by rfl, fun w hSw => by obtain ⟨hS1, hS2⟩ := hSw; go_simp⟩) (by assumption) ?_
        simp only [fGa, fGs, fGz, Act.put, fSa, fSz, fSs]
        refine wpAnyH_done (by kernel_rfl) ?_ _
        go_wp2
        go_ret2
        exact ⟨HE.out.2, fun _ => rfl, fun h => by omega⟩
  · obtain rfl : i = k := by omega
    obtain rfl : i = j0 := by omega
    clear HGO HBA HX2
    go_wp2
    go_ret2
    exact ⟨HI.out.2, gK, cK, rfl, HI.out.1⟩
end Go.Proofs.YtdalbalphagmfaaGreatDoor

namespace Go.Proofs.YtdalbalphagmfaaGreatDoor
open Go.RowKit Go.Maps

def handV (pw gB k cB gK cK : Nat) (RV : List Value) (j : Nat) : List Value := .pointer (some ⟨pw, 0, none⟩) :: .slice (some ⟨gB, 0, none⟩) k cB :: .slice (some ⟨gK, 0, none⟩) k cK :: (RV ++ [.int .i64 (j : Int)])
theorem handV_37 {pw gB k cB gK cK j : Nat} {RV : List Value} (hl : RV.length = 34) : (handV pw gB k cB gK cK RV j)[37]? = some (.int .i64 (j : Int)) := by
 unfold handV
 simp only [List.getElem?_cons_succ]
 rw [List.getElem?_append_right (by omega), hl]
 rfl
theorem handV_set {pw gB k cB gK cK j j' : Nat} {RV : List Value} (hl : RV.length = 34) : (handV pw gB k cB gK cK RV j).set 37 (.int .i64 (j' : Int)) = handV pw gB k cB gK cK RV j' := by
 unfold handV
 simp only [fSs]
 rw [List.set_append_right _ _ (by omega), hl]
 rfl
/-- A hand: the writer, the document's sectors, the numbers. -/
structure Hd (W : World) (B ph p pw gn cn : Nat) (rv : Value) (bs : List Int) (ks : List Nat) (k gB cB : Nat) (usB : List Value) (gK cK j : Nat) : Prop where
 arr : Arr W ph 40 (handV pw gB k cB gK cK (refV (shaOf bs) ((ks.getD 0 0 : Nat) : Int) (bs.length : Int)) j)
 ww : Wr W p pw gn cn rv bs ks j
 bb : Ig W B (.slice (some ⟨gB, 0, none⟩) k cB) usB ((List.range k).map (sectK bs ks))
 kk : Row W B 3 (.slice (some ⟨gK, 0, none⟩) k cK) (iV ks)
 kl : ks.length = k
section
variable {W W' w : World} {B ph p pw gn cn k gB cB gK cK j : Nat} {rv : Value} {bs : List Int} {ks : List Nat} {usB : List Value}
theorem Hd.below (h : Hd W B ph p pw gn cn rv bs ks k gB cB usB gK cK j) (hb : Below W.heap.size W W') : Hd W' B ph p pw gn cn rv bs ks k gB cB usB gK cK j :=
 ⟨h.arr.below hb, h.ww.up (F := fun _ => False) (Up.of_below hb) (fun _ _ h => h), h.bb.below hb, owns_up h.kk (Up.of_below (F := fun _ => False) hb) (fun _ _ h => h), h.kl⟩
theorem Hd.cells (h : Hd W B ph p pw gn cn rv bs ks k gB cB usB gK cK j) : W.cell? ⟨ph, 0, none⟩ = some (.pointer (some ⟨pw, 0, none⟩)) ∧ W.rangeAt ph 3 (refV (shaOf bs) ((ks.getD 0 0 : Nat) : Int) (bs.length : Int)) ∧ W.cell? ⟨ph, 2, none⟩ = some (.slice (some ⟨gK, 0, none⟩) k cK) ∧ W.cell? ⟨ph, 37, none⟩ = some (.int .i64 (j : Int)) ∧ W.cell? ⟨ph, 1, none⟩ = some (.slice (some ⟨gB, 0, none⟩) k cB) := by
 have hl : (refV (shaOf bs) ((ks.getD 0 0 : Nat) : Int) (bs.length : Int)).length = 34 := refV_len (shaOf_len bs) _ _
 refine ⟨arr_cell h.arr rfl, fun q v hv => ?_, arr_cell h.arr rfl, arr_cell h.arr (handV_37 hl), arr_cell h.arr rfl⟩
 rw [Nat.add_comm]
 refine arr_cell h.arr ?_
 unfold handV
 simp only [List.getElem?_cons_succ]
 rw [List.getElem?_append_left (List.getElem?_eq_some_iff.1 hv).1]
 exact hv
set_option maxRecDepth 100000 in
set_option maxHeartbeats 4000000 in
theorem holds_calls (h : Hd w B ph p pw gn cn rv bs ks k gB cB usB gK cK j) : Calls Tryz.prog 32 #[.pointer (some ⟨ph, 0, none⟩)] w fun e w' => e = .returned (.bool true) ∧ Below w.heap.size w w' := by
 have hsl := shaOf_len bs
 obtain ⟨RVV, hRV⟩ : ∃ RVV, refV (shaOf bs) ((ks.getD 0 0 : Nat) : Int) (bs.length : Int) = RVV := ⟨_, rfl⟩
 have HSS : Hid (∀ W, Below w.heap.size w W → W.cell? ⟨ph, 0, none⟩ = some (.pointer (some ⟨pw, 0, none⟩)) ∧ W.rangeAt ph 3 RVV ∧ W.cell? ⟨ph, 2, none⟩ = some (.slice (some ⟨gK, 0, none⟩) k cK) ∧ W.cell? ⟨ph, 37, none⟩ = some (.int .i64 (j : Int))) := hide (fun W hW => by
  obtain ⟨c1, c2, c3, c4, _⟩ := (h.below hW).cells
  rw [hRV] at c2
  exact ⟨c1, c2, c3, c4⟩)
 have HRF : Hid (∀ W, Below w.heap.size w W → Calls Tryz.prog 63 #[.pointer (some ⟨pw, 0, none⟩)] W fun e w' => e = .returned (.agg RVV.toArray) ∧ Below W.heap.size W w') := hide (fun W hW => by
  have := (h.below hW).ww.refs
  rw [hRV] at this
  exact this)
 have HNM : Hid (∀ W, Below w.heap.size w W → Calls Tryz.prog 64 #[.pointer (some ⟨pw, 0, none⟩)] W fun e w' => ∃ g2 c2, e = .returned (.slice (some ⟨g2, 0, none⟩) k c2) ∧ Row w' 0 3 (.slice (some ⟨g2, 0, none⟩) k c2) (iV ks) ∧ Below W.heap.size W w') := hide (fun W hW => by
  have hw := (h.below hW).ww
  obtain ⟨_, _, _, hV35, _, _⟩ := writerV_cells (p := p) (shaOf_len bs) ((ks.getD 0 0 : Nat) : Int) (bs.length : Int) (.slice (some ⟨gn, 0, none⟩) ks.length cn) (j : Int) rv
  have h1 := hw.pos
  have h2 := numbers_calls (arr_cell hw.arr hV35) hw.row (by omega) (by omega)
  rw [h.kl] at h2
  exact h2.mono (fun e w' ⟨g2, c2, a, b, c⟩ => ⟨g2, c2, a, Row.mono b (Nat.zero_le _), c⟩))
 have HSI : Hid (∀ W g2 c2 (_ : Unit), Below w.heap.size w W → Row W 0 3 (.slice (some ⟨g2, 0, none⟩) k c2) (iV ks) → Calls Tryz.prog 11 #[.slice (some ⟨g2, 0, none⟩) k c2, .slice (some ⟨gK, 0, none⟩) k cK] W fun e w' => e = .returned (.bool true) ∧ Below W.heap.size W w') := hide (fun W g2 c2 _ hW hr => (sameInts6_calls hr (h.below hW).kk).mono (fun e w' h => ⟨by rw [h.1, decide_eq_true rfl], h.2⟩))
 have HDN : Hid (∀ W, Below w.heap.size w W → Calls Tryz.prog 65 #[.pointer (some ⟨pw, 0, none⟩)] W fun e w' => e = .returned (.int .i64 (j : Int)) ∧ w' = W) := hide (fun W hW => (h.below hW).ww.done)
 have hiR : (Tryz.prog.info? 38).map (·.size) = some RVV.length := by rw [← hRV]; exact infoRef hsl _ _
 have hreq : ∀ W : World, (binOp .eql 38 (.agg RVV.toArray) (.agg RVV.toArray)).run Tryz.prog W = .ok (.bool true) W := fun W => by rw [← hRV]; exact ref_eql6 hsl W
 have hrg := ref_guardE
 clear h hsl hRV
 go_enter Tryz.func32, Tryz.ntmps32
 go_wp2_with fail
 have hx0 : Below w.heap.size w w.drew := (Below.refl _ _).drew
 refine wp_region_held_drew (S := fun W => W.cell? ⟨ph, 0, none⟩ = some (.pointer (some ⟨pw, 0, none⟩)) ∧ W.rangeAt ph 3 RVV ∧ W.cell? ⟨ph, 2, none⟩ = some (.slice (some ⟨gK, 0, none⟩) k cK) ∧ W.cell? ⟨ph, 37, none⟩ = some (.int .i64 (j : Int))) (by kernel_rfl) (unhide HSS _ hx0) (fun hHeld => ?_)
 refine wpAnyH_take (i := 0) (v := .pointer (some ⟨ph, 0, none⟩)) rfl (by kernel_rfl) (by kernel_rfl) (by kernel_rfl) (fun _ _ _ h => h) (Or.inl ⟨by rfl, fun w hSw => by obtain ⟨hS1, hS2, hS3, hS4⟩ := hSw; go_simp⟩) (by assumption) ?_
 simp only [fGa, fGz, Act.put, fSa, fSz, fSs]
 refine wpAnyH_take (i := 1) (v := .pointer (some ⟨ph, 0, none⟩)) rfl (by kernel_rfl) (by kernel_rfl) (by kernel_rfl) (fun _ _ _ h => h) (Or.inl ⟨by rfl, fun w hSw => by obtain ⟨hS1, hS2, hS3, hS4⟩ := hSw; go_simp⟩) (by assumption) ?_
 simp only [fGa, fGs, fGz, Act.put, fSa, fSz, fSs]
 refine wpAnyH_take (i := 2) (v := .pointer (some ⟨ph, 0, none⟩)) rfl (by kernel_rfl) (by kernel_rfl) (by kernel_rfl) (fun _ _ _ h => h) (Or.inl ⟨by rfl, fun w hSw => by obtain ⟨hS1, hS2, hS3, hS4⟩ := hSw; go_simp⟩) (by assumption) ?_
 simp only [fGa, fGs, fGz, Act.put, fSa, fSz, fSs]
 refine wpAnyH_take (i := 3) (v := .pointer (some ⟨pw, 0, none⟩)) rfl (by kernel_rfl) (by kernel_rfl) (by kernel_rfl) (fun _ _ _ h => h) (Or.inl ⟨by rfl, fun w hSw => by obtain ⟨hS1, hS2, hS3, hS4⟩ := hSw; go_simp⟩) (by assumption) ?_
 simp only [fGa, fGs, fGz, Act.put, fSa, fSz, fSs]
 refine wpAnyH_take (i := 5) (v := .pointer (some ⟨ph, 0, none⟩)) rfl (by kernel_rfl) (by kernel_rfl) (by kernel_rfl) (fun _ _ _ h => h) (Or.inl ⟨by rfl, fun w hSw => by obtain ⟨hS1, hS2, hS3, hS4⟩ := hSw; go_simp⟩) (by assumption) ?_
 simp only [fGa, fGs, fGz, Act.put, fSa, fSz, fSs]
 refine wpAnyH_take (i := 6) (v := .pointer (some ⟨ph, 0, none⟩)) rfl (by kernel_rfl) (by kernel_rfl) (by kernel_rfl) (fun _ _ _ h => h) (Or.inl ⟨by rfl, fun w hSw => by obtain ⟨hS1, hS2, hS3, hS4⟩ := hSw; go_simp⟩) (by assumption) ?_
 simp only [fGa, fGs, fGz, Act.put, fSa, fSz, fSs]
 refine wpAnyH_take (i := 7) (v := .pointer (some ⟨ph, 3, none⟩)) rfl (by kernel_rfl) (by kernel_rfl) (by kernel_rfl) (fun _ _ _ h => h) (Or.inl ⟨by rfl, fun w hSw => by obtain ⟨hS1, hS2, hS3, hS4⟩ := hSw; go_simp⟩) (by assumption) ?_
 simp only [fGa, fGs, fGz, Act.put, fSa, fSz, fSs]
 refine wpAnyH_take (i := 8) (v := .agg (RVV).toArray) rfl (by kernel_rfl) (by kernel_rfl) (by kernel_rfl) (fun _ _ _ h => h) (yieldsIf_load_mid (by rfl) _ _ rfl _ _ rfl _ _ (fun w hSw => hSw.2.1) Tryz.underlying38 rfl hiR) (by assumption) ?_
 simp only [fGa, fGs, fGz, Act.put, fSa, fSz, fSs]
 refine wpAnyH_ready (rs := [4]) (by kernel_rfl) (by simp) (AllReadyH.cons rfl (fun K hK => ?_) AllReadyH.nil)
 refine step_call1C (by rfl) 63 rref_enter (.tmp 6) _ rfl rfl (unhide HRF _ hx0) ?_
 rintro e wa ⟨rfl, hba⟩
 have hx1 : Below w.heap.size w wa := hx0.trans (hba.mono hx0.size)
 refine ⟨_, rfl, ?_⟩
 refine hK.out _ _ (unhide HSS _ hx1) (fun hJ1 => ?_)
 clear hK K
 simp only [fGa, fGs, fGz, Act.put, fSa, fSz, fSs]
 refine wpAnyH_take (i := 9) (v := .bool true) rfl (by kernel_rfl) (by kernel_rfl) (by kernel_rfl) (fun _ _ _ h => h) (Or.inl ⟨by rfl, fun w hSw => by obtain ⟨hS1, hS2, hS3, hS4⟩ := hSw; go_simp⟩) (by assumption) ?_
 simp only [fGa, fGs, fGz, Act.put, fSa, fSz, fSs]
 refine wpAnyH_take (i := 10) (v := .bool true) rfl (by kernel_rfl) (by kernel_rfl) (by kernel_rfl) (fun _ _ _ h => h) (Or.inl ⟨by rfl, fun w hSw => by obtain ⟨hS1, hS2, hS3, hS4⟩ := hSw; go_simp⟩) (by assumption) ?_
 simp only [fGa, fGs, fGz, Act.put, fSa, fSz, fSs]
 refine wpAnyH_take (i := 11) (v := .pointer (some ⟨ph, 0, none⟩)) rfl (by kernel_rfl) (by kernel_rfl) (by kernel_rfl) (fun _ _ _ h => h) (Or.inl ⟨by rfl, fun w hSw => by obtain ⟨hS1, hS2, hS3, hS4⟩ := hSw; go_simp⟩) (by assumption) ?_
 simp only [fGa, fGs, fGz, Act.put, fSa, fSz, fSs]
 refine wpAnyH_take (i := 12) (v := .pointer (some ⟨ph, 0, none⟩)) rfl (by kernel_rfl) (by kernel_rfl) (by kernel_rfl) (fun _ _ _ h => h) (Or.inl ⟨by rfl, fun w hSw => by obtain ⟨hS1, hS2, hS3, hS4⟩ := hSw; go_simp⟩) (by assumption) ?_
 simp only [fGa, fGs, fGz, Act.put, fSa, fSz, fSs]
 refine wpAnyH_take (i := 13) (v := .pointer (some ⟨ph, 0, none⟩)) rfl (by kernel_rfl) (by kernel_rfl) (by kernel_rfl) (fun _ _ _ h => h) (Or.inl ⟨by rfl, fun w hSw => by obtain ⟨hS1, hS2, hS3, hS4⟩ := hSw; go_simp⟩) (by assumption) ?_
 simp only [fGa, fGs, fGz, Act.put, fSa, fSz, fSs]
 refine wpAnyH_take (i := 14) (v := .pointer (some ⟨pw, 0, none⟩)) rfl (by kernel_rfl) (by kernel_rfl) (by kernel_rfl) (fun _ _ _ h => h) (Or.inl ⟨by rfl, fun w hSw => by obtain ⟨hS1, hS2, hS3, hS4⟩ := hSw; go_simp⟩) (by assumption) ?_
 simp only [fGa, fGs, fGz, Act.put, fSa, fSz, fSs]
 refine wpAnyH_take (i := 15) (v := .pointer (some ⟨pw, 0, none⟩)) rfl (by kernel_rfl) (by kernel_rfl) (by kernel_rfl) (fun _ _ _ h => h) (Or.inl ⟨by rfl, fun w hSw => by obtain ⟨hS1, hS2, hS3, hS4⟩ := hSw; go_simp⟩) (by assumption) ?_
 simp only [fGa, fGs, fGz, Act.put, fSa, fSz, fSs]
 refine wpAnyH_take (i := 16) (v := .pointer (some ⟨pw, 0, none⟩)) rfl (by kernel_rfl) (by kernel_rfl) (by kernel_rfl) (fun _ _ _ h => h) (Or.inl ⟨by rfl, fun w hSw => by obtain ⟨hS1, hS2, hS3, hS4⟩ := hSw; go_simp⟩) (by assumption) ?_
 simp only [fGa, fGs, fGz, Act.put, fSa, fSz, fSs]
 refine wpAnyH_take (i := 18) (v := .pointer (some ⟨ph, 0, none⟩)) rfl (by kernel_rfl) (by kernel_rfl) (by kernel_rfl) (fun _ _ _ h => h) (Or.inl ⟨by rfl, fun w hSw => by obtain ⟨hS1, hS2, hS3, hS4⟩ := hSw; go_simp⟩) (by assumption) ?_
 simp only [fGa, fGs, fGz, Act.put, fSa, fSz, fSs]
 refine wpAnyH_take (i := 19) (v := .pointer (some ⟨ph, 0, none⟩)) rfl (by kernel_rfl) (by kernel_rfl) (by kernel_rfl) (fun _ _ _ h => h) (Or.inl ⟨by rfl, fun w hSw => by obtain ⟨hS1, hS2, hS3, hS4⟩ := hSw; go_simp⟩) (by assumption) ?_
 simp only [fGa, fGs, fGz, Act.put, fSa, fSz, fSs]
 refine wpAnyH_take (i := 20) (v := .pointer (some ⟨ph, 2, none⟩)) rfl (by kernel_rfl) (by kernel_rfl) (by kernel_rfl) (fun _ _ _ h => h) (Or.inl ⟨by rfl, fun w hSw => by obtain ⟨hS1, hS2, hS3, hS4⟩ := hSw; go_simp⟩) (by assumption) ?_
 simp only [fGa, fGs, fGz, Act.put, fSa, fSz, fSs]
 refine wpAnyH_take (i := 21) (v := .slice (some ⟨gK, 0, none⟩) k cK) rfl (by kernel_rfl) (by kernel_rfl) (by kernel_rfl) (fun _ _ _ h => h) (Or.inl ⟨by rfl, fun w hSw => by obtain ⟨hS1, hS2, hS3, hS4⟩ := hSw; go_simp⟩) (by assumption) ?_
 simp only [fGa, fGs, fGz, Act.put, fSa, fSz, fSs]
 refine wpAnyH_ready (rs := [17]) (by kernel_rfl) (by simp) (AllReadyH.cons rfl (fun K hK => ?_) AllReadyH.nil)
 refine step_call1GC (by rfl) 64 nums_enter (.tmp 19) _ rfl rfl (unhide HNM _ hx1) ?_
 rintro e wb ⟨g2, c2, rfl, hrb, hbb⟩
 have hx2 : Below w.heap.size w wb := hx1.trans (hbb.mono hx1.size)
 refine ⟨_, rfl, ?_⟩
 refine hK.out _ _ (unhide HSS _ hx2) (fun hJ2 => ?_)
 clear hK K
 simp only [fGa, fGs, fGz, Act.put, fSa, fSz, fSs]
 refine wpAnyH_ready (rs := [22]) (by kernel_rfl) (by simp) (AllReadyH.cons rfl (fun K hK => ?_) AllReadyH.nil)
 refine step_call2GC (by rfl) 11 sameInts6_enter (.tmp 20) (.tmp 24) _ rfl rfl rfl (unhide HSI _ _ _ () hx2 hrb) ?_
 rintro e wc ⟨rfl, hbc⟩
 have hx3 : Below w.heap.size w wc := hx2.trans (hbc.mono hx2.size)
 refine ⟨_, rfl, ?_⟩
 refine hK.out _ _ (unhide HSS _ hx3) (fun hJ3 => ?_)
 clear hK K
 simp only [fGa, fGs, fGz, Act.put, fSa, fSz, fSs]
 refine wpAnyH_take (i := 23) (v := .bool true) rfl (by kernel_rfl) (by kernel_rfl) (by kernel_rfl) (fun _ _ _ h => h) (Or.inl ⟨by rfl, fun w hSw => by obtain ⟨hS1, hS2, hS3, hS4⟩ := hSw; go_simp⟩) (by assumption) ?_
 simp only [fGa, fGs, fGz, Act.put, fSa, fSz, fSs]
 refine wpAnyH_take (i := 24) (v := .bool true) rfl (by kernel_rfl) (by kernel_rfl) (by kernel_rfl) (fun _ _ _ h => h) (Or.inl ⟨by rfl, fun w hSw => by obtain ⟨hS1, hS2, hS3, hS4⟩ := hSw; go_simp⟩) (by assumption) ?_
 simp only [fGa, fGs, fGz, Act.put, fSa, fSz, fSs]
 refine wpAnyH_take (i := 25) (v := .pointer (some ⟨ph, 0, none⟩)) rfl (by kernel_rfl) (by kernel_rfl) (by kernel_rfl) (fun _ _ _ h => h) (Or.inl ⟨by rfl, fun w hSw => by obtain ⟨hS1, hS2, hS3, hS4⟩ := hSw; go_simp⟩) (by assumption) ?_
 simp only [fGa, fGs, fGz, Act.put, fSa, fSz, fSs]
 refine wpAnyH_take (i := 26) (v := .pointer (some ⟨ph, 0, none⟩)) rfl (by kernel_rfl) (by kernel_rfl) (by kernel_rfl) (fun _ _ _ h => h) (Or.inl ⟨by rfl, fun w hSw => by obtain ⟨hS1, hS2, hS3, hS4⟩ := hSw; go_simp⟩) (by assumption) ?_
 simp only [fGa, fGs, fGz, Act.put, fSa, fSz, fSs]
 refine wpAnyH_take (i := 27) (v := .pointer (some ⟨ph, 0, none⟩)) rfl (by kernel_rfl) (by kernel_rfl) (by kernel_rfl) (fun _ _ _ h => h) (Or.inl ⟨by rfl, fun w hSw => by obtain ⟨hS1, hS2, hS3, hS4⟩ := hSw; go_simp⟩) (by assumption) ?_
 simp only [fGa, fGs, fGz, Act.put, fSa, fSz, fSs]
 refine wpAnyH_take (i := 28) (v := .pointer (some ⟨pw, 0, none⟩)) rfl (by kernel_rfl) (by kernel_rfl) (by kernel_rfl) (fun _ _ _ h => h) (Or.inl ⟨by rfl, fun w hSw => by obtain ⟨hS1, hS2, hS3, hS4⟩ := hSw; go_simp⟩) (by assumption) ?_
 simp only [fGa, fGs, fGz, Act.put, fSa, fSz, fSs]
 refine wpAnyH_take (i := 29) (v := .pointer (some ⟨pw, 0, none⟩)) rfl (by kernel_rfl) (by kernel_rfl) (by kernel_rfl) (fun _ _ _ h => h) (Or.inl ⟨by rfl, fun w hSw => by obtain ⟨hS1, hS2, hS3, hS4⟩ := hSw; go_simp⟩) (by assumption) ?_
 simp only [fGa, fGs, fGz, Act.put, fSa, fSz, fSs]
 refine wpAnyH_take (i := 30) (v := .pointer (some ⟨pw, 0, none⟩)) rfl (by kernel_rfl) (by kernel_rfl) (by kernel_rfl) (fun _ _ _ h => h) (Or.inl ⟨by rfl, fun w hSw => by obtain ⟨hS1, hS2, hS3, hS4⟩ := hSw; go_simp⟩) (by assumption) ?_
 simp only [fGa, fGs, fGz, Act.put, fSa, fSz, fSs]
 refine wpAnyH_take (i := 32) (v := .pointer (some ⟨ph, 0, none⟩)) rfl (by kernel_rfl) (by kernel_rfl) (by kernel_rfl) (fun _ _ _ h => h) (Or.inl ⟨by rfl, fun w hSw => by obtain ⟨hS1, hS2, hS3, hS4⟩ := hSw; go_simp⟩) (by assumption) ?_
 simp only [fGa, fGs, fGz, Act.put, fSa, fSz, fSs]
 refine wpAnyH_take (i := 33) (v := .pointer (some ⟨ph, 0, none⟩)) rfl (by kernel_rfl) (by kernel_rfl) (by kernel_rfl) (fun _ _ _ h => h) (Or.inl ⟨by rfl, fun w hSw => by obtain ⟨hS1, hS2, hS3, hS4⟩ := hSw; go_simp⟩) (by assumption) ?_
 simp only [fGa, fGs, fGz, Act.put, fSa, fSz, fSs]
 refine wpAnyH_take (i := 34) (v := .pointer (some ⟨ph, 37, none⟩)) rfl (by kernel_rfl) (by kernel_rfl) (by kernel_rfl) (fun _ _ _ h => h) (Or.inl ⟨by rfl, fun w hSw => by obtain ⟨hS1, hS2, hS3, hS4⟩ := hSw; go_simp⟩) (by assumption) ?_
 simp only [fGa, fGs, fGz, Act.put, fSa, fSz, fSs]
 refine wpAnyH_take (i := 35) (v := .int .i64 (j : Int)) rfl (by kernel_rfl) (by kernel_rfl) (by kernel_rfl) (fun _ _ _ h => h) (Or.inl ⟨by rfl, fun w hSw => by obtain ⟨hS1, hS2, hS3, hS4⟩ := hSw; go_simp⟩) (by assumption) ?_
 simp only [fGa, fGs, fGz, Act.put, fSa, fSz, fSs]
 refine wpAnyH_ready (rs := [31]) (by kernel_rfl) (by simp) (AllReadyH.cons rfl (fun K hK => ?_) AllReadyH.nil)
 refine step_call1GC (by rfl) 65 done_enter (.tmp 33) _ rfl rfl (unhide HDN _ hx3) ?_
 rintro e wn ⟨rfl, hwn⟩
 obtain rfl := hwn.symm
 clear hwn
 refine ⟨_, rfl, ?_⟩
 refine hK.out _ _ (unhide HSS _ hx3) (fun hJ4 => ?_)
 clear hK K
 simp only [fGa, fGs, fGz, Act.put, fSa, fSz, fSs]
 refine wpAnyH_take (i := 36) (v := .bool true) rfl (by kernel_rfl) (by kernel_rfl) (by kernel_rfl) (fun _ _ _ h => h) (Or.inl ⟨by rfl, fun w hSw => by obtain ⟨hS1, hS2, hS3, hS4⟩ := hSw; go_simp⟩) (by assumption) ?_
 simp only [fGa, fGs, fGz, Act.put, fSa, fSz, fSs]
 refine wpAnyH_take (i := 37) (v := .bool true) rfl (by kernel_rfl) (by kernel_rfl) (by kernel_rfl) (fun _ _ _ h => h) (Or.inl ⟨by rfl, fun w hSw => by obtain ⟨hS1, hS2, hS3, hS4⟩ := hSw; go_simp⟩) (by assumption) ?_
 simp only [fGa, fGs, fGz, Act.put, fSa, fSz, fSs]
 refine wpAnyH_take (i := 38) (v := .bool true) rfl (by kernel_rfl) (by kernel_rfl) (by kernel_rfl) (fun _ _ _ h => h) (Or.inl ⟨by rfl, fun w hSw => by obtain ⟨hS1, hS2, hS3, hS4⟩ := hSw; go_simp⟩) (by assumption) ?_
 simp only [fGa, fGs, fGz, Act.put, fSa, fSz, fSs]
 refine wpAnyH_done (by kernel_rfl) ?_ _
 go_wp2
 go_ret
 exact ⟨rfl, hx3⟩
end
end Go.Proofs.YtdalbalphagmfaaGreatDoor
