/- chain's statements: what a base tells of its acts; whether its disk lies as its image. chain's statements: what the document says of a writer ahead. chain's statements: a writer in hand. -/
import Derived.Test.YtdalbalphagmfaaGreatDoorSK
import Derived.Test.YtdalbalphagmfaaGreatDoorSM
namespace Go.Proofs.YtdalbalphagmfaaGreatDoor
open Go.RowKit Go.Maps

set_option maxRecDepth 100000 in
set_option maxHeartbeats 4000000 in
theorem bacts_calls {w : World} {gx p : Nat} {r0 w0 f0 r1 w1 r v : Int} (hx : w.cell? ⟨gx, 0, none⟩ = some (.pointer (some ⟨p, 0, none⟩))) (h2 : w.cell? ⟨p, 2, none⟩ = some (.int .i64 r1)) (h3 : w.cell? ⟨p, 3, none⟩ = some (.int .i64 w1)) (h4 : w.cell? ⟨p, 4, none⟩ = some (.int .i64 f0)) (hr : IntKind.i64.wrap (r0 + r) = r1) (hw : IntKind.i64.wrap (w0 + v) = w1) :
 Calls Tryz.prog 28 #[.pointer (some ⟨gx, 0, none⟩), .agg #[.int .i64 r0, .int .i64 w0, .int .i64 f0], .int .i64 r, .int .i64 v] w fun e w' => e = .returned (.bool true) ∧ Below w.heap.size w w' := by
 obtain ⟨wa, hwa⟩ : ∃ wa, w.alloc (.cells #[.int .i64 r0, .int .i64 w0, .int .i64 f0] 80) = wa := ⟨_, rfl⟩
 have hba : Below w.heap.size w wa := by rw [← hwa]; exact (Below.refl _ _).alloc (Nat.le_refl _) _
 have hA : Arr wa w.heap.size 80 [.int .i64 r0, .int .i64 w0, .int .i64 f0] := by rw [← hwa]; exact Arr.new w _ _
 have HAC := hide (acts_calls (bkeptC hba h2) (bkeptC hba h3) (bkeptC hba h4))
 have hxa := bkeptC hba hx
 have HWA := hide hwa
 have HBA := hide hba
 obtain ⟨S, hS⟩ : ∃ S, w.heap.size = S := ⟨_, rfl⟩
 have HS := hide hS
 rw [hS] at hA ⊢
 clear hx h2 h3 h4 hwa hba hS
 go_enter Tryz.func28, Tryz.ntmps28
 go_wp2_with (rw [HWA.out, HS.out])
 refine (unhide HAC).mono ?_
 rintro e w2 ⟨rfl, hb2⟩
 have hA2 : Arr w2 S 80 [.int .i64 r0, .int .i64 w0, .int .i64 f0] := hA.below hb2
 have hA3 := Arr.new w2 [.int .i64 0, .int .i64 0, .int .i64 0] 80
 have hiA : (Tryz.prog.info? 80).map (·.size) = some [Value.int .i64 r1, .int .i64 w1, .int .i64 f0].length := by kernel_rfl
 have h1A : ∀ u ∈ [Value.int .i64 r1, .int .i64 w1, .int .i64 f0], u.oneCell' = true := by simp [Value.oneCell']
 have HX : Hid (∀ w4, Arr w4 w2.heap.size 80 [.int .i64 r1, .int .i64 w1, .int .i64 f0] → Wrote (w2.alloc (.cells #[.int .i64 0, .int .i64 0, .int .i64 0] 80)) w4 w2.heap.size → Arr w4 S 80 [.int .i64 r0, .int .i64 w0, .int .i64 f0] ∧ Below S w w4) := hide (fun w4 h4 hW => by
  have hb3 : Below w2.heap.size w2 (w2.alloc (.cells #[.int .i64 0, .int .i64 0, .int .i64 0] 80)) := (Below.refl _ _).alloc (Nat.le_refl _) _
  have hlt := hA2.lt
  refine ⟨(hA2.below hb3).wrote hW (by omega), hW.below _ _ ?_ (by omega)⟩
  have h1 := HBA.out
  rw [HS.out] at h1
  have hs1 := h1.size
  rw [HS.out] at hs1
  exact (h1.trans (hb2.mono hs1)).trans (hb3.mono (by omega)))
 clear HAC hb2 hA hxa HWA HBA
 go_wp2_with (refine wpList_storeArr2 (cs' := [Value.int .i64 r1, .int .i64 w1, .int .i64 f0]) rfl (.tmp 9) (.tmp 14) 80 rfl rfl rfl hA3 hiA rfl h1A ?_; intro w4 h4 hW4
              obtain ⟨h5, hb5⟩ := unhide HX w4 h4 hW4
              have c1 := arr_cell h4 (j := 0) rfl
              have c2 := arr_cell h4 (j := 1) rfl
              have c3 := arr_cell h4 (j := 2) rfl
              have c4 := arr_cell h5 (j := 0) rfl
              have c5 := arr_cell h5 (j := 1) rfl
              have c6 := arr_cell h5 (j := 2) rfl
              have HB5 := hide hb5
              clear h4 hW4 h5 hb5 hA3 hA2)
 go_ret
 exact ⟨rfl, HB5.out⟩
set_option maxRecDepth 100000 in
set_option maxHeartbeats 4000000 in
theorem lies_calls {w : World} {gx ga ca n p gl gm B : Nat} {us : List Value} {ims : List (List Int)} {V : Nat → Value} {D : AD} {s r : Value} (hA : Arr w gx 47 [.pointer (some ⟨p, 0, none⟩), s, .slice (some ⟨ga, 0, none⟩) n ca, r]) (hI : Ig w B (.slice (some ⟨ga, 0, none⟩) n ca) us ims) (hnl : ims.length = n) (hD : Dk w p gl gm V D) (hn : D.la.length = n) (hn2 : n ≤ 1000) (hnow : ∀ i, i < n → D.now i = ims.getD i []) (hr0 : 0 ≤ D.rd) (hr1 : D.rd ≤ 1000000) :
 Calls Tryz.prog 8 #[.pointer (some ⟨gx, 0, none⟩)] w fun e w' => e = .returned (.bool true) ∧ Dk w' p gl gm V (D.reads n) ∧ Up (fun b => b = p) w w' := by
 have hca : n ≤ ca ∧ ca ≤ 9223372036854775807 := by
  have hl := hI.len
  rcases hI.own.2 with ⟨hv, _⟩ | ⟨g', cap, cur, hv, _, _, q1, q2, _⟩
  · cases hv
  · injection hv with e1 e2 e3
    subst e3
    exact ⟨by omega, by unfold maxLen at q2; omega⟩
 have HST : Hid (∀ W, Up (fun b => b = p) w W → W.cell? ⟨gx, 0, none⟩ = some (.pointer (some ⟨p, 0, none⟩)) ∧ W.cell? ⟨gx, 2, none⟩ = some (.slice (some ⟨ga, 0, none⟩) n ca) ∧ ∀ j, j < n → ∃ a c, W.cell? ⟨ga, j, none⟩ = some (.slice a 512 c) ∧ IsB W (.slice a 512 c) (ims.getD j [])) := hide (fun W hU => by
  have hty := hD.blk.ty
  have hne : ∀ {b : Nat} {t : TypeId}, Ty w b t → t ≠ 123 → ¬ b = p := fun hb ht e => ht (hb.one (e ▸ hty))
  have hA2 := hA.up hU (hne hA.ty (by decide))
  have hI2 := hI.up hU (fun b hb => by obtain ⟨_, c, m, h2⟩ := row_blk hI.own hb; exact hne ⟨c, m, h2⟩ (by decide)) (fun b hb => hne hb (by decide))
  refine ⟨arr_cell hA2 rfl, arr_cell hA2 rfl, fun j hj => ?_⟩
  obtain ⟨a, c, q1, q2, _⟩ := hI2.at (j := j) (by omega)
  exact ⟨a, c, q1, q2⟩)
 have HRD : Hid (∀ W j, Dk W p gl gm V (D.reads j) → j < n → Calls Tryz.prog 33 #[.pointer (some ⟨p, 0, none⟩), .int .i64 (j : Int)] W fun e w' => ∃ g, e = .returned (.tuple #[.slice (some ⟨g, 0, none⟩) 512 512, .int .i64 0]) ∧ IsB w' (.slice (some ⟨g, 0, none⟩) 512 512) (ims.getD j []) ∧ Dk w' p gl gm V (D.reads (j + 1)) ∧ Up (fun b => b = p) W w') := hide (fun W j hDW hj => by
  refine (read_calls hDW (i := j) (by show j < D.la.length; omega) (by show 0 ≤ D.rd + (j : Int); omega) (by show D.rd + (j : Int) ≤ 1152921504606846976; omega)).mono ?_
  rintro e w' ⟨g, rfl, _, hA9, hD9, hgr⟩
  rw [reads_succ] at hD9
  have e9 : (D.reads j).now j = ims.getD j [] := hnow j hj
  rw [e9] at hA9
  refine ⟨g, rfl, isB_sector hA9 (hI.secs _ ?_), hD9, Up.of_grown hgr (fun _ e => (Option.some.inj e).symm)⟩
  rw [List.getD_eq_getElem?_getD, List.getElem?_eq_getElem (by omega)]
  exact List.getElem_mem _)
 have HNU : Hid (∀ W, Calls Tryz.prog 19 #[.int .i64 0] W fun e w' => e = .returned (.int .i64 0) ∧ w' = W) := hide (fun W => num6_calls 0 W)
 have HD0 : Hid (Dk w p gl gm V (D.reads 0)) := by
  have e : D.reads 0 = D := by simp [AD.reads]
  rw [e]; exact hide hD
 obtain ⟨hca1, hca2⟩ := hca
 clear hA hI hnl hD hn hnow hr0 hr1
 go_enter Tryz.func8, Tryz.ntmps8
 go_wp2_with fail
 go_loopw [3] (fun i wr => ∃ k : Nat, k ≤ n ∧ i = .int .i64 (k : Int) ∧ Hid (Dk wr p gl gm V (D.reads k) ∧ Up (fun b => b = p) w wr)) (fun i _ => n - (intOf i).toNat)
 case atStart => exact ⟨0, by omega, rfl, hide ⟨HD0.out, Up.refl _ _⟩⟩
 case round =>
  clear HD0
  obtain ⟨k, hk, rfl, HL⟩ := hrel
  obtain ⟨c0, c2, hcs⟩ := unhide HST wr HL.out.2
  by_cases hlt : k < n
  · have hkI : (k : Int) < (n : Int) := by omega
    have HRK := hide (unhide HRD wr k HL.out.1 hlt)
    clear hcs
    go_wp2_with fail
    refine (unhide HRK).mono ?_
    rintro e w4 ⟨g, rfl, hX, hD4, hU4⟩
    have hU5 : Up (fun b => b = p) w w4 := HL.out.2.trans hU4 (fun x hx => Or.inl hx)
    obtain ⟨d0, d2, hcs⟩ := unhide HST w4 hU5
    obtain ⟨a, c, hca, hIr⟩ := hcs k hlt
    have HSM : Hid (Calls Tryz.prog 27 #[.slice (some ⟨g, 0, none⟩) 512 512, .slice a 512 c] w4 fun e w' => e = .returned (.bool true) ∧ w' = w4) := hide ((same6_calls hX hIr).mono (fun e w' h => ⟨by rw [h.1, decide_eq_true rfl], h.2⟩))
    have HL4 := hide (And.intro hD4 hU5)
    clear hX hD4 hU4 hU5 hIr HRK HL hcs c0 c2
    go_wp2_with fail
    refine (unhide HNU _).mono ?_
    rintro e wn ⟨rfl, hwn⟩
    obtain rfl := hwn.symm
    clear hwn
    go_wp2_with fail
    refine (unhide HSM).mono ?_
    rintro e wn ⟨rfl, hwn⟩
    obtain rfl := hwn.symm
    clear hwn HSM
    go_wp2
    go_roundw
    case rel => exact ⟨k + 1, by omega, by go_num, HL4⟩
    case measure => simp [intOf]; omega
  · obtain rfl : k = n := by omega
    clear hcs
    go_wp2
    go_ret
    exact ⟨rfl, HL.out.1, HL.out.2⟩
end Go.Proofs.YtdalbalphagmfaaGreatDoor

namespace Go.Proofs.YtdalbalphagmfaaGreatDoor
open Go.RowKit Go.Maps

end Go.Proofs.YtdalbalphagmfaaGreatDoor

namespace Go.Proofs.YtdalbalphagmfaaGreatDoor
open Go.RowKit Go.Maps

end Go.Proofs.YtdalbalphagmfaaGreatDoor
