/- ChainReads: the walk. -/
import Derived.Test.YtdalbalphagmfaaGreatDoorRdN
import Derived.Test.YtdalbalphagmfaaGreatDoorSQ
import Derived.Deep.DeepCutAuto
namespace Go.Proofs.YtdalbalphagmfaaGreatDoor
open Go.RowKit Go.Maps

theorem reads_now (D : AD) (j i : Nat) : (D.reads j).now i = D.now i := rfl
theorem secN_pos {le : Int} (h : secN le ≠ 0) : ∃ k : Nat, secN le = (k : Int) ∧ 1 ≤ k := by
 have h0 : 0 ≤ secN le := by unfold secN; split <;> omega
 exact ⟨(secN le).toNat, by omega, by omega⟩
section
variable {w : World} {gx ga ca n p gl gm g gr B0 : Nat} {us : List Value} {ims : List (List Int)} {V : Nat → Value} {D : AD} {hs : List Int} {fi le heap : Int}
/-- A reading of any ref. -/
theorem bread_any (hC : Bc w gx ga ca n us ims p gl gm V D g gr B0) (hF : ∀ x, Ft p gl gm V x → GB ≤ x) (hGB : GB ≤ w.heap.size) (hh : hs.length = 32) (hhb : ∀ x ∈ hs, 0 ≤ x ∧ x ≤ 255) (hn2 : n ≤ 65536) (hnow : ∀ i, i < n → D.now i = ims.getD i []) (hw0 : 0 ≤ D.wt) (hw1 : D.wt ≤ 1000000) (hr0 : 0 ≤ D.rd) (hr1 : D.rd ≤ 1000000) :
 Calls Tryz.prog 14 #[.pointer (some ⟨gx, 0, none⟩), .int .i64 heap, .agg (refV hs fi le).toArray] w fun e w' => e = .returned (.bool true) ∧ ∃ j, j ≤ 5000 ∧ Dk w' p gl gm V (D.reads j) ∧ Up (fun b => b = p) w w' := by
 have hp : GB ≤ p := hF p (Or.inl rfl)
 by_cases h1 : heap < 1 ∨ (n : Int) < heap
 · exact bread_no hC hp hh (Or.inl ⟨rfl, h1⟩) hw0 hw1 hr0 hr1
 · by_cases hz : secN le = 0
   · exact bread_no hC hp hh (Or.inr (Or.inl ⟨rfl, by omega, by omega, hz⟩)) hw0 hw1 hr0 hr1
   · by_cases hf : fi < heap ∨ (n : Int) ≤ fi
     · exact bread_no hC hp hh (Or.inr (Or.inr ⟨rfl, by omega, by omega, hz, by omega⟩)) hw0 hw1 hr0 hr1
     · obtain ⟨k, hk, hk1⟩ := secN_pos hz
       obtain ⟨hn, rfl⟩ : ∃ hn : Nat, heap = (hn : Int) := ⟨heap.toNat, by omega⟩
       obtain ⟨f0, rfl⟩ : ∃ f0 : Nat, fi = (f0 : Int) := ⟨fi.toNat, by omega⟩
       exact bread_yes hC hF hGB hh hhb (by omega) hk hk1 ⟨by omega, by omega⟩ hn2 hnow hw0 hw1 hr0 hr1
end
set_option maxRecDepth 100000 in
set_option maxHeartbeats 16000000 in
theorem reads_walk {w : World} {sn fn tn heap : Int} {ra ta : Option Addr} {rn rc tl tc : Nat} {raw : List (Int × List Int)} {tk hs : List Int} {fi le : Int} (hr : IsSpots w (.slice ra rn rc) raw) (htk : IsT w (.slice ta tl tc) tk) (hh : hs.length = 32) (hhb : ∀ x ∈ hs, 0 ≤ x ∧ x ≤ 255) (hT : TT w) :
 Calls Tryz.prog 4 #[.agg #[.int .i64 sn, .slice ra rn rc, .int .i64 fn, .int .i64 tn, .slice ta tl tc], .int .i64 heap, .agg (refV hs fi le).toArray] w fun e w' => e = .returned (.bool true) ∧ Below w.heap.size w w' := by
 obtain ⟨n, hn⟩ : ∃ n : Nat, (wholeI sn 2 200).toNat = n := ⟨_, rfl⟩
 have hn2 : 2 ≤ n ∧ n ≤ 200 := by have := wholeI_in sn (show (2 : Int) ≤ 200 by omega); omega
 obtain ⟨IMS, hIMS⟩ : ∃ IMS, laidI n (List.replicate n zsec) (raw.take 400) = IMS := ⟨_, rfl⟩
 have HNL : Hid (IMS.length = n) := hide (by rw [← hIMS, laidI_len, List.length_replicate])
 obtain ⟨S, hS⟩ : ∃ S, w.heap.size = S := ⟨_, rfl⟩
 obtain ⟨w1, hw1⟩ : ∃ w1, w.alloc (.cells #[.int .i64 sn, .slice ra rn rc, .int .i64 fn, .int .i64 tn, .slice ta tl tc] 25) = w1 := ⟨_, rfl⟩
 have hA1 : Arr w1 S 25 [.int .i64 sn, .slice ra rn rc, .int .i64 fn, .int .i64 tn, .slice ta tl tc] := by rw [← hw1, ← hS]; exact Arr.new _ _ _
 have hb1 : Below w.heap.size w w1 := by rw [← hw1]; exact (Below.refl _ _).alloc (Nat.le_refl _) _
 obtain ⟨RV, hRV⟩ : ∃ RV, refV hs fi le = RV := ⟨_, rfl⟩
 have hiR : (Tryz.prog.info? 38).map (·.size) = some RV.length := by rw [← hRV]; exact infoRef hh _ _
 have hS2 : w1.heap.size = S + 1 := by rw [← hw1, ← hS]; exact Array.size_push _
 obtain ⟨w2, hw2⟩ : ∃ w2, w1.alloc (.cells RV.toArray 38) = w2 := ⟨_, rfl⟩
 have hA2 : Arr w2 (S + 1) 38 RV := by rw [← hw2, ← hS2]; exact Arr.new _ _ _
 have hb12 : Below w1.heap.size w1 w2 := by rw [← hw2]; exact (Below.refl _ _).alloc (Nat.le_refl _) _
 have hb2 : Below w.heap.size w w2 := hb1.trans (hb12.mono hb1.size)
 have HLD := hide (laid_calls (sn := sn) (fn := fn) (tn := tn) (hr.belowW hb2) (isT_belowW htk hb2) (hT.below hb2))
 rw [hn, hIMS] at HLD
 generalize frI sn fn = FR at HLD
 generalize toI sn fn tn = TO at HLD
 generalize takenW _ _ _ _ = WS at HLD
 generalize takenR _ _ _ _ = RS0 at HLD
 obtain ⟨hn2a, hn2b⟩ := hn2
 have HS := hide hS
 have HW1 := hide hw1
 have HW2 := hide hw2
 have HB2 := hide hb2
 have HT := hide hT
 have HA2 := hide hA2
 have HRV : Hid (∀ W gx ga ca us p gl gm V g gr B, Bc W gx ga ca n us IMS p gl gm V ⟨IMS, fun _ => [], 0, 0, 0⟩ g gr B → (∀ x, Ft p gl gm V x → GB ≤ x) → GB ≤ W.heap.size → Calls Tryz.prog 14 #[.pointer (some ⟨gx, 0, none⟩), .int .i64 heap, .agg RV.toArray] W fun e w' => e = .returned (.bool true) ∧ ∃ j, j ≤ 5000 ∧ Dk w' p gl gm V ((⟨IMS, fun _ => [], 0, 0, 0⟩ : AD).reads j) ∧ Up (fun b => b = p) W w') := hide (fun W gx ga ca us p gl gm V g gr B hC hF hG => by
  have q := bread_any (fi := fi) (le := le) (heap := heap) hC hF hG hh hhb (by omega) (fun i hi => now0 HNL.out i hi) (by show (0 : Int) ≤ 0; omega) (by show (0 : Int) ≤ 1000000; omega) (by show (0 : Int) ≤ 0; omega) (by show (0 : Int) ≤ 1000000; omega)
  rw [hRV] at q
  exact q)
 have hA1' := hA1.below hb12
 have c10 : w2.cell? ⟨S, 0, none⟩ = some (.int .i64 sn) := arr_cell hA1' rfl
 have c11 : w2.cell? ⟨S, 1, none⟩ = some (.slice ra rn rc) := arr_cell hA1' rfl
 have c12 : w2.cell? ⟨S, 2, none⟩ = some (.int .i64 fn) := arr_cell hA1' rfl
 have c13 : w2.cell? ⟨S, 3, none⟩ = some (.int .i64 tn) := arr_cell hA1' rfl
 have c14 : w2.cell? ⟨S, 4, none⟩ = some (.slice ta tl tc) := arr_cell hA1' rfl
 rw [hS, hRV]
 clear hr htk hT hn hIMS hS hw1 hb1 hA1 hA1' hw2 hS2 hA2 hb12 hb2 hRV hh hhb
 go_enter Tryz.func4, Tryz.ntmps4
 go_wp2_with fail
 rw [HW1.out, HW2.out, HS.out]
 obtain ⟨S2, hS2⟩ : ∃ S2, S + 1 = S2 := ⟨_, rfl⟩
 rw [hS2] at HA2 ⊢
 have HS2 := hide hS2
 clear hS2
 refine (unhide HLD).mono ?_
 rintro e w3 ⟨gx, p, gl, gm, V, m1, g, gw, m2, gr, gb, rfl, hL3⟩
 obtain ⟨B, hBe⟩ : ∃ B, w2.heap.size = B := ⟨_, rfl⟩
 rw [hBe] at hL3
 have hSB : S ≤ B := by have := HB2.out.size; have := HS.out; omega
 have hgbS : GB ≤ S := by have := HT.out.size; have := HS.out; omega
 have hb13 : Below B w2 w3 := hL3.l6.low
 have hb03 : Below S w w3 := by
  have h1 := HB2.out
  rw [HS.out] at h1
  exact h1.trans (hb13.mono hSB)
 have hT3 : TT w3 := HT.out.below (by have h := hb03; rw [← HS.out] at h; exact h)
 obtain ⟨ga, ca, us, hC3, hgaB⟩ := hL3.bc HNL.out (by omega) hT3
 have hFt3 : ∀ b, Ft p gl gm V b → B ≤ b := fun b hb => ft_lo hL3.vn hL3.lo.1 hL3.lo.2.1 hL3.lo.2.2 b hb
 have hs3 : S ≤ w3.heap.size := by have := hb03.size; have := HS.out; omega
 have HRD := hide (unhide HRV w3 gx ga ca us p gl gm V g gr B hC3 (fun x hx => by have := hFt3 x hx; omega) (by omega))
 have hrg : w3.rangeAt S2 0 RV := arr_range (ds := []) (by rw [List.append_nil]; exact HA2.out.below (by rw [hBe]; exact hb13))
 have HLI : Hid (∀ W j, Dk W p gl gm V ((⟨IMS, fun _ => [], 0, 0, 0⟩ : AD).reads j) → j ≤ 5000 → Up (fun b => b = p) w3 W → Calls Tryz.prog 8 #[.pointer (some ⟨gx, 0, none⟩)] W fun e w' => e = .returned (.bool true) ∧ TT w' ∧ Below S w w') := hide (fun W j hD hj hU => by
  have hp := hFt3 p (Or.inl rfl)
  have hCW := hC3.later (by omega) hU hD
  refine (lies_calls hCW.arr hCW.ig hCW.nl hCW.dk hCW.dn (by omega) (fun i hi => (reads_now _ _ _).trans (now0 HNL.out i hi)) (by show (0 : Int) ≤ 0 + (j : Int); omega) (by show 0 + (j : Int) ≤ 1000000; omega)).mono ?_
  rintro e w' ⟨rfl, _, hU'⟩
  have hU2 := hU.trans hU' (fun b h => Or.inl h)
  exact ⟨rfl, hC3.tt.up hU2 (fun b e => by omega), hb03.trans (hU2.below hs3 (fun b e => by omega))⟩)
 clear hL3 hC3 hFt3 hT3 hb13 HLD HRV c10 c11 c12 c13 c14 HA2
 go_wp2_with (refine wpList_load_mid rfl 38 (.tmp 5) rfl S2 0 rfl RV _ hrg Tryz.underlying38 rfl hiR ?_)
 refine (unhide HRD).mono ?_
 rintro e w4 ⟨rfl, j, hj, hD4, hU4⟩
 have HLI4 := hide (unhide HLI w4 j hD4 hj hU4)
 clear HRD HLI hD4 hj hU4 hrg
 go_wp2_with fail
 refine (unhide HLI4).mono ?_
 rintro e w5 ⟨rfl, hT5, hb5⟩
 have HST := hide (started_calls hT5)
 have HB5 := hide hb5
 clear hT5 hb5 HLI4
 go_wp2_with fail
 refine (unhide HST).mono ?_
 rintro e w6 ⟨rfl, hb6⟩
 have HB6 : Hid (Below S w w6) := hide (HB5.out.trans (hb6.mono (by have := HB5.out.size; have := HS.out; omega)))
 clear hb6 HST
 go_wp2
 go_ret
 exact ⟨rfl, HB6.out⟩
end Go.Proofs.YtdalbalphagmfaaGreatDoor
